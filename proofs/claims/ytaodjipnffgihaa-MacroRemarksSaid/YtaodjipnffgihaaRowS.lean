/- Rows of tokens: what they are, where they lie; an argument that is a list of rows, opened. -/
import Derived.Test.YtaodjipnffgihaaSized
namespace Go.Proofs.Ytaodjipnffgihaa
open Go.ChangeShapes Go.WideShapes Go.ChangeAt Go.RowKit Go.Deep

/-- A row: is it a directive, its name, its tokens. -/
structure Rz where
  d : Bool
  nm : ByteArray
  ts : List Tz

/-- A row's tokens behind a slice's place. -/
def ToksAt (W : World) (B : Nat) (a : Option Addr) (ts : List Tz) : Prop := 0 < ts.length → ∃ b o, a = some ⟨b, o, none⟩ ∧ b < B ∧ TzAt W b o ts
/-- A row lies at p of the block b; its tokens lie below B. -/
def RowAt (W : World) (B b p : Nat) (r : Rz) : Prop := W.cell? ⟨b, p, none⟩ = some (.bool r.d) ∧ W.cell? ⟨b, p + 1, none⟩ = some (.string r.nm) ∧ ∃ a cap, W.cell? ⟨b, p + 2, none⟩ = some (.slice a r.ts.length cap) ∧ ToksAt W B a r.ts
def RzAt (W : World) (B b o : Nat) (rs : List Rz) : Prop := ∀ i r, rs[i]? = some r → RowAt W B b (o + i * 3) r
theorem ToksAt.below {B : Nat} {W W' : World} {a : Option Addr} {ts : List Tz} (h : ToksAt W B a ts) (hb : Below B W W') : ToksAt W' B a ts := fun hp => by
  obtain ⟨b, o, e, hlt, ht⟩ := h hp
  exact ⟨b, o, e, hlt, ht.below hb hlt⟩
theorem ToksAt.mono {B B' : Nat} {W : World} {a : Option Addr} {ts : List Tz} (h : ToksAt W B a ts) (hB : B ≤ B') : ToksAt W B' a ts := fun hp => by
  obtain ⟨b, o, e, hlt, ht⟩ := h hp
  exact ⟨b, o, e, Nat.lt_of_lt_of_le hlt hB, ht⟩
theorem RzAt.below {B b o : Nat} {W W' : World} {rs : List Rz} (h : RzAt W B b o rs) (hb : Below B W W') (hlt : b < B) : RzAt W' B b o rs := fun i r hr => by
  have hc : ∀ p, W'.cell? ⟨b, p, none⟩ = W.cell? ⟨b, p, none⟩ := fun p => hb.cell (p := ⟨b, p, none⟩) hlt
  obtain ⟨h1, h2, a, cap, h3, h4⟩ := h i r hr
  exact ⟨by rw [hc]; exact h1, by rw [hc]; exact h2, a, cap, by rw [hc]; exact h3, h4.below hb⟩
theorem RzAt.mono {B B' b o : Nat} {W : World} {rs : List Rz} (h : RzAt W B b o rs) (hB : B ≤ B') : RzAt W B' b o rs := fun i r hr => by
  obtain ⟨h1, h2, a, cap, h3, h4⟩ := h i r hr
  exact ⟨h1, h2, a, cap, h3, h4.mono hB⟩
theorem cell_lt {W : World} {b o : Nat} {u : Value} (h : W.cell? ⟨b, o, none⟩ = some u) : b < W.heap.size := by
  unfold World.cell? at h
  split at h
  · rename_i he
    exact (Array.getElem?_eq_some_iff.1 he).1
  · cases h

section
variable {H : Type} {enc : TypeId × Value → H} {w : World} {base : Nat} {held : Bool}
set_option maxRecDepth 100000 in
/-- One row's cells. -/
theorem row_cells {n : Nat} {cs : List Value} {x : DataW H × List MemPlace} (hl : cs.length = 3) (h : DataW.trod enc Try.prog w base (fun _ => true) held n 67 cs = some x) : ∃ (d : Bool) (nm : ByteArray) (v : Value) (m : Nat) (y : DataW H × List MemPlace), cs = [.bool d, .string nm, v] ∧ nm.size ∈ x.1.weights Try.prog 67 ∧
    DataW.trod enc Try.prog w base (fun _ => true) held m 22 [v] = some y ∧ ∀ k ∈ y.1.weights Try.prog 22, k ∈ x.1.weights Try.prog 67 := by
  obtain ⟨ys, m, _, rfl, _, hlen, hf⟩ := DataW.trod_struct Try.underlying67 h
  match cs, hl with
  | [c0, c1, c2], _ =>
    match ys, hlen with
    | [y0, y1, y2], _ =>
      have g0 : DataW.trod enc Try.prog w base (fun _ => true) held m 4 (([c0, c1, c2].drop 0).take (Try.prog.cellsOf 4)) = some y0 := hf 0 _ rfl
      rw [show Try.prog.cellsOf 4 = 1 by kernel_rfl] at g0
      have g1 : DataW.trod enc Try.prog w base (fun _ => true) held m 9 (([c0, c1, c2].drop 1).take (Try.prog.cellsOf 9)) = some y1 := hf 1 _ rfl
      rw [show Try.prog.cellsOf 9 = 1 by kernel_rfl] at g1
      have g2 : DataW.trod enc Try.prog w base (fun _ => true) held m 22 (([c0, c1, c2].drop 2).take (Try.prog.cellsOf 22)) = some y2 := hf 2 _ rfl
      rw [show Try.prog.cellsOf 22 = 1 by kernel_rfl] at g2
      simp only [List.drop_succ_cons, List.drop_zero, List.take_succ_cons, List.take_zero] at g0 g1 g2
      obtain ⟨d, e0, _⟩ := DataW.trod_bool Try.underlying4 g0
      obtain ⟨nm, e1, rfl, _⟩ := DataW.trod_string Try.underlying9 g1
      simp only [List.cons.injEq, and_true] at e0 e1
      subst e0 e1
      refine ⟨d, nm, c2, m, y2, rfl, ?_, g2, fun k hk => ?_⟩
      · simp only [DataW.weights, Try.underlying67, DataW.weightsEach, List.map_cons, List.map_nil, List.mem_append]
        refine .inr (.inl ?_)
        rw [← size_list]; exact List.mem_singleton.2 rfl
      · simp only [DataW.weights, Try.underlying67, DataW.weightsEach, List.map_cons, List.map_nil, List.mem_append]
        exact .inr (.inr (.inl hk))

/-- How great a row that came in may be. -/
structure RzFits (r : Rz) : Prop where
  nm : r.nm.size ≤ reachBytes
  ts : r.ts.length * 48 ≤ reachBytes
  tx : ∀ t ∈ r.ts, t.tx.size ≤ reachBytes

/-- The list of rows that came in. -/
theorem rows_came {fuel : Nat} {v : Value} {x : DataW H × List MemPlace} (h : DataW.trod enc Try.prog w base (fun _ => true) held fuel 63 [v] = some x) (hb : ∀ m ∈ x.1.weights Try.prog 63, m ≤ reachBytes) :
    v = .slice none 0 0 ∨ ∃ (ad : Addr) (n cap : Nat) (rs : List Rz), v = .slice (some ad) n cap ∧ rs.length = n ∧ n * 48 ≤ reachBytes ∧ (∀ r ∈ rs, RzFits r) ∧ (0 < n → ∃ b o, ad = ⟨b, o, none⟩ ∧ b < w.heap.size ∧ RzAt w w.heap.size b o rs) := by
  rcases open_slice Try.underlying63 h with ⟨hcs, _⟩ | ⟨a, len, cap, m, k, D, Pl, hcs, hba, hl, hm, hmm, hx, hi⟩
  · exact .inl (by simpa using hcs)
  · right
    simp only [if_true] at hmm
    have hC : Try.prog.cellsOf 67 = 3 := by kernel_rfl
    rw [hC] at hi
    have hB : Try.prog.bytesOf 67 = 48 := by kernel_rfl
    rw [hx] at hb
    simp only [DataW.weights, Try.underlying63, hB, List.mem_cons, List.mem_append] at hb
    have hlen : len * 48 ≤ reachBytes := by
      have := hb _ (.inl rfl)
      rw [List.length_map, List.length_range] at this
      exact Nat.le_trans (Nat.mul_le_mul_right 48 (Nat.le_add_right _ _)) this
    have hel : ∀ i, i < len → ∃ (r : Rz) (u : Value), w.cell? (a.add (i * 3)) = some (.bool r.d) ∧ w.cell? (a.add (i * 3 + 1)) = some (.string r.nm) ∧ w.cell? (a.add (i * 3 + 2)) = some u ∧ RzFits r ∧ ∃ a' cap', u = .slice a' r.ts.length cap' ∧ ToksAt w w.heap.size a' r.ts := by
      intro i hil
      obtain ⟨cs', hc, ht⟩ := hi i (by omega)
      obtain ⟨_, hcl, hat⟩ := World.cells?_some hc
      obtain ⟨d, nm, u, m', y, rfl, hnm, hu, huw⟩ := row_cells hcl ht
      have hmem : D i ∈ (List.range len).map D := List.mem_map.2 ⟨i, List.mem_range.2 hil, rfl⟩
      have hW : ∀ k ∈ (D i).weights Try.prog 67, k ≤ reachBytes := fun k hk => hb _ (.inr (.inl (weights_all hmem _ hk)))
      have c0 := hat 0 (by decide)
      have c1 := hat 1 (by decide)
      have c2 := hat 2 (by decide)
      simp only [Addr.add_add] at c0 c1 c2
      rcases toks_came hu (fun k hk => hW k (huw k hk)) with rfl | ⟨ad, n', cap', ts, rfl, hn', hn2, htx, hT⟩
      · exact ⟨⟨d, nm, []⟩, _, c0, c1, c2, ⟨hW _ hnm, Nat.zero_le _, fun t h => by cases h⟩, none, 0, rfl, fun h => absurd h (Nat.lt_irrefl 0)⟩
      · subst hn'
        refine ⟨⟨d, nm, ts⟩, _, c0, c1, c2, ⟨hW _ hnm, hn2, htx⟩, some ad, cap', rfl, fun hp => ?_⟩
        obtain ⟨b, o, rfl, hr⟩ := hT hp
        obtain ⟨t0, ht0⟩ : ∃ t, ts[0]? = some t := ⟨_, List.getElem?_eq_getElem hp⟩
        exact ⟨b, o, rfl, cell_lt (hr 0 t0 ht0).1, hr⟩
    have hT : ∀ l, l ≤ len → ∃ rs : List Rz, rs.length = l ∧ ∀ i r, rs[i]? = some r → (∃ u : Value, w.cell? (a.add (i * 3)) = some (.bool r.d) ∧ w.cell? (a.add (i * 3 + 1)) = some (.string r.nm) ∧ w.cell? (a.add (i * 3 + 2)) = some u ∧ RzFits r ∧ ∃ a' cap', u = .slice a' r.ts.length cap' ∧ ToksAt w w.heap.size a' r.ts) := by
      intro l
      induction l with
      | zero => intro _; exact ⟨[], rfl, fun i t h => by simp at h⟩
      | succ l ih =>
        intro hle
        obtain ⟨rs, h1, h2⟩ := ih (by omega)
        obtain ⟨r, u, h3⟩ := hel l (by omega)
        refine ⟨rs ++ [r], by simp [h1], fun i q hq => ?_⟩
        by_cases hil : i < l
        · rw [List.getElem?_append_left (by omega)] at hq; exact h2 i q hq
        · have hlt := (List.getElem?_eq_some_iff.1 hq).1
          simp only [List.length_append, List.length_singleton] at hlt
          obtain rfl : i = l := by omega
          rw [List.getElem?_append_right (by omega), h1, Nat.sub_self] at hq
          simp only [List.getElem?_cons_zero, Option.some.injEq] at hq
          subst hq; exact ⟨u, h3⟩
    obtain ⟨rs, h1, h2⟩ := hT len (Nat.le_refl _)
    refine ⟨a, len, cap, rs, by simpa using hcs, h1, hlen, fun r hr => ?_, fun hp => ?_⟩
    · obtain ⟨i, hi⟩ := List.getElem?_of_mem hr
      obtain ⟨u, _, _, _, hf, _⟩ := h2 i r hi
      exact hf
    · obtain ⟨b, o, spot⟩ := a
      obtain ⟨r0, hr0⟩ : ∃ r, rs[0]? = some r := ⟨_, List.getElem?_eq_getElem (by omega)⟩
      obtain ⟨u0, h0, _⟩ := h2 0 r0 hr0
      have hspot : spot = none := by simpa [Addr.add] using World.cell?_spot (a := (⟨b, o, spot⟩ : Addr).add (0 * 3)) h0
      subst hspot
      have ha : ∀ i j, (⟨b, o, none⟩ : Addr).add (i * 3 + j) = ⟨b, o + i * 3 + j, none⟩ := fun i j => by rw [Addr.add_lit, Nat.add_assoc]
      have ha0 : ∀ i, (⟨b, o, none⟩ : Addr).add (i * 3) = ⟨b, o + i * 3, none⟩ := fun i => by rw [Addr.add_lit]
      rw [ha0] at h0
      refine ⟨b, o, rfl, cell_lt h0, fun i r hr => ?_⟩
      obtain ⟨u, c0, c1, c2, _, a', cap', rfl, hT'⟩ := h2 i r hr
      rw [ha0] at c0
      rw [ha] at c1 c2
      exact ⟨c0, c1, a', cap', c2, hT'⟩
end

end Go.Proofs.Ytaodjipnffgihaa
