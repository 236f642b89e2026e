/- An argument that is a macro, opened. -/
import Derived.Test.YtaodjipnffgihaaGreatMcL
import Derived.Test.YtaodjipnffgihaaGreatMzI
namespace Go.Proofs.YtaodjipnffgihaaGreat
open Go.ChangeShapes Go.WideShapes Go.ChangeAt Go.RowKit Go.Deep

theorem list_of {α : Type} (R : Nat → α → Prop) : ∀ len, (∀ i, i < len → ∃ r, R i r) → ∃ rs : List α, rs.length = len ∧ ∀ i r, rs[i]? = some r → R i r
  | 0, _ => ⟨[], rfl, fun i r h => by simp at h⟩
  | len + 1, h => by
    obtain ⟨rs, h1, h2⟩ := list_of R len (fun i hi => h i (by omega))
    obtain ⟨r, h3⟩ := h len (by omega)
    refine ⟨rs ++ [r], by simp [h1], fun i u hu => ?_⟩
    by_cases hil : i < len
    · rw [List.getElem?_append_left (by omega)] at hu; exact h2 i u hu
    · have hlt := (List.getElem?_eq_some_iff.1 hu).1
      simp only [List.length_append, List.length_singleton] at hlt
      obtain rfl : i = len := by omega
      rw [List.getElem?_append_right (by omega), h1, Nat.sub_self] at hu
      simp only [List.getElem?_cons_zero, Option.some.injEq] at hu
      subst hu; exact h3

section
variable {H : Type} {enc : TypeId × Value → H} {w : World} {base : Nat} {held : Bool}

set_option maxRecDepth 100000 in
/-- The list of texts that came in. -/
theorem strs_came {fuel : Nat} {v : Value} {x : DataW H × List MemPlace} (h : DataW.trod enc Tryz.prog w base (fun _ => true) held fuel 22 [v] = some x) (hb : ∀ m ∈ x.1.weights Tryz.prog 22, m ≤ reachBytes) :
    ∃ (a : Option Addr) (cap : Nat) (ss : List ByteArray), v = .slice a ss.length cap ∧ ss.length * 16 ≤ reachBytes ∧ (∀ s ∈ ss, s.size ≤ reachBytes) ∧ StrIn w a ss := by
  rcases open_slice Tryz.underlying22 h with ⟨hcs, _⟩ | ⟨a, len, cap, m, k, D, Pl, hcs, hba, hl, hm, hmm, hx, hi⟩
  · exact ⟨none, 0, [], by simpa using hcs, Nat.zero_le _, (fun s hs => by cases hs), fun hp => absurd hp (Nat.lt_irrefl 0)⟩
  · simp only [if_true] at hmm
    have hC : Tryz.prog.cellsOf 9 = 1 := by kernel_rfl
    rw [hC] at hi
    have hB : Tryz.prog.bytesOf 9 = 16 := by kernel_rfl
    rw [hx] at hb
    simp only [DataW.weights, Tryz.underlying22, hB, List.mem_cons, List.mem_append] at hb
    have hlen : len * 16 ≤ reachBytes := by
      have := hb _ (.inl rfl)
      rw [List.length_map, List.length_range] at this
      exact Nat.le_trans (Nat.mul_le_mul_right 16 (Nat.le_add_right _ _)) this
    obtain ⟨ss, h1, h2⟩ := list_of (fun i (s : ByteArray) => w.cell? (a.add (i * 1)) = some (.string s) ∧ s.size ≤ reachBytes) len (fun i hil => by
      obtain ⟨cs', hc, ht⟩ := hi i (by omega)
      obtain ⟨_, hcl, hat⟩ := World.cells?_some hc
      match cs', hcl with
      | [c0], _ =>
        have c0h := hat 0 (by decide)
        rw [Addr.add_add] at c0h
        obtain ⟨s, e, e1, _⟩ := DataW.trod_string Tryz.underlying9 ht
        simp only [List.cons.injEq, and_true] at e
        subst e
        refine ⟨s, c0h, ?_⟩
        have hmem : D i ∈ (List.range len).map D := List.mem_map.2 ⟨i, List.mem_range.2 hil, rfl⟩
        refine hb _ (.inr (.inl (weights_all hmem _ ?_)))
        have e2 : D i = .lit (.string s.data.toList) := congrArg Prod.fst e1
        rw [e2, ← size_list]
        simp only [DataW.weights]
        exact List.mem_singleton.2 rfl)
    subst h1
    refine ⟨some a, cap, ss, by simpa using hcs, hlen, fun s hs => ?_, fun hp => ?_⟩
    · obtain ⟨i, hi⟩ := List.getElem?_of_mem hs
      exact (h2 i s hi).2
    · obtain ⟨b, o, spot⟩ := a
      obtain ⟨r0, hr0⟩ : ∃ r, ss[0]? = some r := ⟨_, List.getElem?_eq_getElem hp⟩
      have h0 := (h2 0 r0 hr0).1
      have hspot : spot = none := by simpa [Addr.add] using World.cell?_spot (a := (⟨b, o, spot⟩ : Addr).add (0 * 1)) h0
      subst hspot
      have ha : ∀ i, (⟨b, o, none⟩ : Addr).add (i * 1) = ⟨b, o + i, none⟩ := fun i => by rw [Addr.add_lit, Nat.mul_one]
      rw [ha] at h0
      refine ⟨b, o, rfl, cell_lt h0, fun i s hs => ?_⟩
      have h3 := (h2 i s hs).1
      rw [ha] at h3
      exact h3

set_option maxRecDepth 100000 in
/-- One macro token's cells. -/
theorem ptok_cells {n : Nat} {cs : List Value} {x : DataW H × List MemPlace} (hl : cs.length = 4) (h : DataW.trod enc Tryz.prog w base (fun _ => true) held n 35 cs = some x) : ∃ (k : Int) (tx : ByteArray) (sp : Bool) (v : Value) (m : Nat) (y : DataW H × List MemPlace), cs = [.int .i64 k, .string tx, .bool sp, v] ∧ tx.size ∈ x.1.weights Tryz.prog 35 ∧
    DataW.trod enc Tryz.prog w base (fun _ => true) held m 22 [v] = some y ∧ ∀ k ∈ y.1.weights Tryz.prog 22, k ∈ x.1.weights Tryz.prog 35 := by
  obtain ⟨ys, m, _, rfl, _, hlen, hf⟩ := DataW.trod_struct Tryz.underlying35 h
  match cs, hl with
  | [c0, c1, c2, c3], _ =>
    match ys, hlen with
    | [y0, y1, y2, y3], _ =>
      have g0 : DataW.trod enc Tryz.prog w base (fun _ => true) held m 3 (([c0, c1, c2, c3].drop 0).take (Tryz.prog.cellsOf 3)) = some y0 := hf 0 _ rfl
      rw [show Tryz.prog.cellsOf 3 = 1 by kernel_rfl] at g0
      have g1 : DataW.trod enc Tryz.prog w base (fun _ => true) held m 9 (([c0, c1, c2, c3].drop 1).take (Tryz.prog.cellsOf 9)) = some y1 := hf 1 _ rfl
      rw [show Tryz.prog.cellsOf 9 = 1 by kernel_rfl] at g1
      have g2 : DataW.trod enc Tryz.prog w base (fun _ => true) held m 4 (([c0, c1, c2, c3].drop 2).take (Tryz.prog.cellsOf 4)) = some y2 := hf 2 _ rfl
      rw [show Tryz.prog.cellsOf 4 = 1 by kernel_rfl] at g2
      have g3 : DataW.trod enc Tryz.prog w base (fun _ => true) held m 22 (([c0, c1, c2, c3].drop 3).take (Tryz.prog.cellsOf 22)) = some y3 := hf 3 _ rfl
      rw [show Tryz.prog.cellsOf 22 = 1 by kernel_rfl] at g3
      simp only [List.drop_succ_cons, List.drop_zero, List.take_succ_cons, List.take_zero] at g0 g1 g2 g3
      obtain ⟨k, e0, _, _⟩ := DataW.trod_int Tryz.underlying3 g0
      obtain ⟨tx, e1, rfl, _⟩ := DataW.trod_string Tryz.underlying9 g1
      obtain ⟨sp, e2, _⟩ := DataW.trod_bool Tryz.underlying4 g2
      simp only [List.cons.injEq, and_true] at e0 e1 e2
      subst e0 e1 e2
      refine ⟨k, tx, sp, c3, m, y3, rfl, ?_, g3, fun k hk => ?_⟩
      · simp only [DataW.weights, Tryz.underlying35, DataW.weightsEach, List.map_cons, List.map_nil, List.mem_append]
        refine .inr (.inl ?_)
        rw [← size_list]; exact List.mem_singleton.2 rfl
      · simp only [DataW.weights, Tryz.underlying35, DataW.weightsEach, List.map_cons, List.map_nil, List.mem_append]
        exact .inr (.inr (.inr (.inl hk)))

set_option maxRecDepth 100000 in
/-- The list of macro tokens that came in. -/
theorem ptoks_came {fuel : Nat} {v : Value} {x : DataW H × List MemPlace} (h : DataW.trod enc Tryz.prog w base (fun _ => true) held fuel 23 [v] = some x) (hb : ∀ m ∈ x.1.weights Tryz.prog 23, m ≤ reachBytes) :
    ∃ (a : Option Addr) (cap : Nat) (ps : List Pz), v = .slice a ps.length cap ∧ ps.length * 56 ≤ reachBytes ∧ (∀ p ∈ ps, p.tx.size ≤ reachBytes ∧ p.ps.length * 16 ≤ reachBytes ∧ ∀ s ∈ p.ps, s.size ≤ reachBytes) ∧ PzIn w a ps := by
  rcases open_slice Tryz.underlying23 h with ⟨hcs, _⟩ | ⟨a, len, cap, m, k, D, Pl, hcs, hba, hl, hm, hmm, hx, hi⟩
  · exact ⟨none, 0, [], by simpa using hcs, Nat.zero_le _, (fun s hs => by cases hs), fun hp => absurd hp (Nat.lt_irrefl 0)⟩
  · simp only [if_true] at hmm
    have hC : Tryz.prog.cellsOf 35 = 4 := by kernel_rfl
    rw [hC] at hi
    have hB : Tryz.prog.bytesOf 35 = 56 := by kernel_rfl
    rw [hx] at hb
    simp only [DataW.weights, Tryz.underlying23, hB, List.mem_cons, List.mem_append] at hb
    have hlen : len * 56 ≤ reachBytes := by
      have := hb _ (.inl rfl)
      rw [List.length_map, List.length_range] at this
      exact Nat.le_trans (Nat.mul_le_mul_right 56 (Nat.le_add_right _ _)) this
    obtain ⟨ps, h1, h2⟩ := list_of (fun i (p : Pz) => w.cell? (a.add (i * 4)) = some (.int .i64 p.k) ∧ w.cell? (a.add (i * 4 + 1)) = some (.string p.tx) ∧ w.cell? (a.add (i * 4 + 2)) = some (.bool p.sp) ∧ (∃ a' c, w.cell? (a.add (i * 4 + 3)) = some (.slice a' p.ps.length c) ∧ StrIn w a' p.ps ∧ p.ps.length ≤ 140737488355328) ∧ p.tx.size ≤ reachBytes ∧ p.ps.length * 16 ≤ reachBytes ∧ ∀ s ∈ p.ps, s.size ≤ reachBytes) len (fun i hil => by
      obtain ⟨cs', hc, ht⟩ := hi i (by omega)
      obtain ⟨_, hcl, hat⟩ := World.cells?_some hc
      obtain ⟨k, tx, sp, u, m', y, rfl, htx, hu, huw⟩ := ptok_cells hcl ht
      have hmem : D i ∈ (List.range len).map D := List.mem_map.2 ⟨i, List.mem_range.2 hil, rfl⟩
      have hW : ∀ k ∈ (D i).weights Tryz.prog 35, k ≤ reachBytes := fun k hk => hb _ (.inr (.inl (weights_all hmem _ hk)))
      have c0 := hat 0 (by decide)
      have c1 := hat 1 (by decide)
      have c2 := hat 2 (by decide)
      have c3 := hat 3 (by decide)
      simp only [Addr.add_add] at c0 c1 c2 c3
      obtain ⟨a', cap', ss, rfl, hs2, hs3, hs4⟩ := strs_came hu (fun k hk => hW k (huw k hk))
      have hr : ss.length * 16 ≤ 281474976710656 := Nat.le_trans hs2 (by decide)
      exact ⟨⟨k, tx, sp, ss⟩, c0, c1, c2, ⟨a', cap', c3, hs4, by show ss.length ≤ _; omega⟩, hW _ htx, hs2, hs3⟩)
    subst h1
    refine ⟨some a, cap, ps, by simpa using hcs, hlen, fun p hp => ?_, fun hp => ?_⟩
    · obtain ⟨i, hi⟩ := List.getElem?_of_mem hp
      obtain ⟨_, _, _, _, h5⟩ := h2 i p hi
      exact h5
    · obtain ⟨b, o, spot⟩ := a
      obtain ⟨r0, hr0⟩ : ∃ r, ps[0]? = some r := ⟨_, List.getElem?_eq_getElem hp⟩
      have h0 := (h2 0 r0 hr0).1
      have hspot : spot = none := by simpa [Addr.add] using World.cell?_spot (a := (⟨b, o, spot⟩ : Addr).add (0 * 4)) h0
      subst hspot
      have ha : ∀ i j, (⟨b, o, none⟩ : Addr).add (i * 4 + j) = ⟨b, o + i * 4 + j, none⟩ := fun i j => by rw [Addr.add_lit, Nat.add_assoc]
      have ha0 : ∀ i, (⟨b, o, none⟩ : Addr).add (i * 4) = ⟨b, o + i * 4, none⟩ := fun i => by rw [Addr.add_lit]
      rw [ha0] at h0
      refine ⟨b, o, rfl, cell_lt h0, fun i p hp => ?_⟩
      obtain ⟨c0, c1, c2, ⟨a', c', c3, hs, hl⟩, _⟩ := h2 i p hp
      rw [ha0] at c0
      rw [ha] at c1 c2 c3
      exact ⟨c0, c1, c2, a', c', c3, hs, hl⟩

set_option maxRecDepth 100000 in
/-- The macro that came in. -/
theorem macro_came {fuel : Nat} {cs : Array Value} {x : DataW H × List MemPlace} (hl : cs.size = 5) (h : DataW.trod enc Tryz.prog w base (fun _ => true) held fuel 25 cs.toList = some x) (hb : ∀ m ∈ x.1.weights Tryz.prog 25, m ≤ reachBytes) :
    ∃ (m : Mz) (pa ba : Option Addr) (pc bc : Nat), cs = #[.string m.nm, .bool m.fn, .slice pa m.ps.length pc, .bool m.vr, .slice ba m.bs.length bc] ∧ StrIn w pa m.ps ∧ PzIn w ba m.bs ∧ m.nm.size ≤ reachBytes ∧ m.ps.length * 16 ≤ reachBytes ∧ (∀ s ∈ m.ps, s.size ≤ reachBytes) ∧ m.bs.length * 56 ≤ reachBytes ∧ (∀ p ∈ m.bs, p.tx.size ≤ reachBytes ∧ p.ps.length * 16 ≤ reachBytes ∧ ∀ s ∈ p.ps, s.size ≤ reachBytes) := by
  obtain ⟨ys, m, _, rfl, _, hlen, hf⟩ := DataW.trod_struct Tryz.underlying25 h
  obtain ⟨l⟩ := cs
  match l, hl with
  | [c0, c1, c2, c3, c4], _ =>
    match ys, hlen with
    | [y0, y1, y2, y3, y4], _ =>
      have g0 : DataW.trod enc Tryz.prog w base (fun _ => true) held m 9 (([c0, c1, c2, c3, c4].drop 0).take (Tryz.prog.cellsOf 9)) = some y0 := hf 0 _ rfl
      rw [show Tryz.prog.cellsOf 9 = 1 by kernel_rfl] at g0
      have g1 : DataW.trod enc Tryz.prog w base (fun _ => true) held m 4 (([c0, c1, c2, c3, c4].drop 1).take (Tryz.prog.cellsOf 4)) = some y1 := hf 1 _ rfl
      rw [show Tryz.prog.cellsOf 4 = 1 by kernel_rfl] at g1
      have g2 : DataW.trod enc Tryz.prog w base (fun _ => true) held m 22 (([c0, c1, c2, c3, c4].drop 2).take (Tryz.prog.cellsOf 22)) = some y2 := hf 2 _ rfl
      rw [show Tryz.prog.cellsOf 22 = 1 by kernel_rfl] at g2
      have g3 : DataW.trod enc Tryz.prog w base (fun _ => true) held m 4 (([c0, c1, c2, c3, c4].drop 3).take (Tryz.prog.cellsOf 4)) = some y3 := hf 3 _ rfl
      rw [show Tryz.prog.cellsOf 4 = 1 by kernel_rfl] at g3
      have g4 : DataW.trod enc Tryz.prog w base (fun _ => true) held m 23 (([c0, c1, c2, c3, c4].drop 4).take (Tryz.prog.cellsOf 23)) = some y4 := hf 4 _ rfl
      rw [show Tryz.prog.cellsOf 23 = 1 by kernel_rfl] at g4
      simp only [List.drop_succ_cons, List.drop_zero, List.take_succ_cons, List.take_zero] at g0 g1 g2 g3 g4
      simp only [DataW.weights, Tryz.underlying25, DataW.weightsEach, List.map_cons, List.map_nil, List.mem_append] at hb
      obtain ⟨nm, e0, rfl, _⟩ := DataW.trod_string Tryz.underlying9 g0
      obtain ⟨fn, e1, _⟩ := DataW.trod_bool Tryz.underlying4 g1
      obtain ⟨vr, e3, _⟩ := DataW.trod_bool Tryz.underlying4 g3
      simp only [List.cons.injEq, and_true] at e0 e1 e3
      subst e0 e1 e3
      obtain ⟨pa, pc, ps, rfl, p2, p3, p4⟩ := strs_came g2 (fun k hk => hb k (.inr (.inr (.inl hk))))
      obtain ⟨ba, bc, bs, rfl, b2, b3, b4⟩ := ptoks_came g4 (fun k hk => hb k (.inr (.inr (.inr (.inr (.inl hk))))))
      exact ⟨⟨nm, fn, ps, vr, bs⟩, pa, ba, pc, bc, rfl, p4, b4, hb _ (.inl (by rw [← size_list]; exact List.mem_singleton.2 rfl)), p2, p3, b2, b3⟩
end

end Go.Proofs.YtaodjipnffgihaaGreat
