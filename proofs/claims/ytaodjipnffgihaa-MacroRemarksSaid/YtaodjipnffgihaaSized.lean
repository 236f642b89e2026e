/- An argument that is a list of tokens, opened; how great it may be. -/
import Derived.Test.YtaodjipnffgihaaBares0
import Derived.ProofKit
import Derived.OpenShut
import Derived.Deep.Slices
import Derived.Deep.Fields
import Derived.ChangeArms
import Derived.SizedLaws
namespace Go.Proofs.Ytaodjipnffgihaa
open Go.ChangeShapes Go.WideShapes Go.ChangeAt Go.RowKit Go.Deep

theorem weights_all {H : Type} {P : Program} {e : TypeId} {d : DataW H} {l : List (DataW H)} (h : d ∈ l) : ∀ m ∈ d.weights P e, m ∈ DataW.weightsAll P e l := by
  induction l with
  | nil => cases h
  | cons x r ih =>
    intro m hm
    simp only [DataW.weightsAll, List.mem_append]
    cases List.mem_cons.1 h with
    | inl e => subst e; exact .inl hm
    | inr e => exact .inr (ih e m hm)

section
variable {H : Type} {enc : TypeId × Value → H} {w : World} {base : Nat} {spare : Nat → Bool} {held : Bool}
set_option maxRecDepth 100000 in
/-- One token's cells. -/
theorem tok_cells {n : Nat} {cs : List Value} {x : DataW H × List MemPlace} (hl : cs.length = 5) (h : DataW.trod enc Try.prog w base spare held n 49 cs = some x) : ∃ t : Tz, cs = tzCell t ∧ t.tx.size ∈ x.1.weights Try.prog 49 := by
  obtain ⟨ys, m, _, rfl, _, hlen, hf⟩ := DataW.trod_struct Try.underlying49 h
  match cs, hl with
  | [c0, c1, c2, c3, c4], _ =>
    match ys, hlen with
    | [y0, y1, y2, y3, y4], _ =>
      have g0 : DataW.trod enc Try.prog w base spare held m 3 (([c0, c1, c2, c3, c4].drop 0).take (Try.prog.cellsOf 3)) = some y0 := hf 0 _ rfl
      rw [show Try.prog.cellsOf 3 = 1 by kernel_rfl] at g0
      have g1 : DataW.trod enc Try.prog w base spare held m 9 (([c0, c1, c2, c3, c4].drop 1).take (Try.prog.cellsOf 9)) = some y1 := hf 1 _ rfl
      rw [show Try.prog.cellsOf 9 = 1 by kernel_rfl] at g1
      have g2 : DataW.trod enc Try.prog w base spare held m 3 (([c0, c1, c2, c3, c4].drop 2).take (Try.prog.cellsOf 3)) = some y2 := hf 2 _ rfl
      rw [show Try.prog.cellsOf 3 = 1 by kernel_rfl] at g2
      have g3 : DataW.trod enc Try.prog w base spare held m 3 (([c0, c1, c2, c3, c4].drop 3).take (Try.prog.cellsOf 3)) = some y3 := hf 3 _ rfl
      rw [show Try.prog.cellsOf 3 = 1 by kernel_rfl] at g3
      have g4 : DataW.trod enc Try.prog w base spare held m 4 (([c0, c1, c2, c3, c4].drop 4).take (Try.prog.cellsOf 4)) = some y4 := hf 4 _ rfl
      rw [show Try.prog.cellsOf 4 = 1 by kernel_rfl] at g4
      simp only [List.drop_succ_cons, List.drop_zero, List.take_succ_cons, List.take_zero] at g0 g1 g2 g3 g4
      obtain ⟨k, e0, _, _⟩ := DataW.trod_int Try.underlying3 g0
      obtain ⟨tx, e1, rfl, _⟩ := DataW.trod_string Try.underlying9 g1
      obtain ⟨a, e2, _, _⟩ := DataW.trod_int Try.underlying3 g2
      obtain ⟨e, e3, _, _⟩ := DataW.trod_int Try.underlying3 g3
      obtain ⟨sp, e4, _⟩ := DataW.trod_bool Try.underlying4 g4
      simp only [List.cons.injEq, and_true] at e0 e1 e2 e3 e4
      subst e0 e1 e2 e3 e4
      refine ⟨⟨k, tx, a, e, sp⟩, rfl, ?_⟩
      simp only [DataW.weights, Try.underlying49, DataW.weightsEach, List.map_cons, List.map_nil, List.mem_append]
      refine .inr (.inl ?_)
      rw [← size_list]; exact List.mem_singleton.2 rfl

/-- The list of tokens that came in. -/
theorem toks_came {fuel : Nat} {v : Value} {x : DataW H × List MemPlace} (h : DataW.trod enc Try.prog w base (fun _ => true) held fuel 22 [v] = some x) (hb : ∀ m ∈ x.1.weights Try.prog 22, m ≤ reachBytes) :
    v = .slice none 0 0 ∨ ∃ (ad : Addr) (n cap : Nat) (ts : List Tz), v = .slice (some ad) n cap ∧ ts.length = n ∧ n * 48 ≤ reachBytes ∧ (∀ t ∈ ts, t.tx.size ≤ reachBytes) ∧ (0 < n → ∃ b o, ad = ⟨b, o, none⟩ ∧ TzAt w b o ts) := by
  rcases open_slice Try.underlying22 h with ⟨hcs, _⟩ | ⟨a, len, cap, m, k, D, Pl, hcs, hba, hl, hm, hmm, hx, hi⟩
  · exact .inl (by simpa using hcs)
  · right
    simp only [if_true] at hmm
    have hC : Try.prog.cellsOf 49 = 5 := by kernel_rfl
    rw [hC] at hi
    have hB : Try.prog.bytesOf 49 = 48 := by kernel_rfl
    rw [hx] at hb
    simp only [DataW.weights, Try.underlying22, hB, List.mem_cons, List.mem_append] at hb
    have hlen : len * 48 ≤ reachBytes := by
      have := hb _ (.inl rfl)
      rw [List.length_map, List.length_range] at this
      exact Nat.le_trans (Nat.mul_le_mul_right 48 (Nat.le_add_right _ _)) this
    have hel : ∀ i, i < len → ∃ t : Tz, (∀ j, j < 5 → w.cell? (a.add (i * 5 + j)) = (tzCell t)[j]?) ∧ t.tx.size ≤ reachBytes := by
      intro i hil
      obtain ⟨cs', hc, ht⟩ := hi i (by omega)
      obtain ⟨_, hcl, hat⟩ := World.cells?_some hc
      obtain ⟨t, rfl, htb⟩ := tok_cells hcl ht
      refine ⟨t, fun j hj => ?_, ?_⟩
      · rw [← hat j hj, Addr.add_add]
      · have : D i ∈ (List.range len).map D := List.mem_map.2 ⟨i, List.mem_range.2 hil, rfl⟩
        exact hb _ (.inr (.inl (weights_all this _ htb)))
    have hT : ∀ l, l ≤ len → ∃ ts : List Tz, ts.length = l ∧ ∀ i t, ts[i]? = some t → (∀ j, j < 5 → w.cell? (a.add (i * 5 + j)) = (tzCell t)[j]?) ∧ t.tx.size ≤ reachBytes := by
      intro l
      induction l with
      | zero => intro _; exact ⟨[], rfl, fun i t h => by simp at h⟩
      | succ l ih =>
        intro hle
        obtain ⟨ts, h1, h2⟩ := ih (by omega)
        obtain ⟨t, h3⟩ := hel l (by omega)
        refine ⟨ts ++ [t], by simp [h1], fun i u hu => ?_⟩
        by_cases hil : i < l
        · rw [List.getElem?_append_left (by omega)] at hu; exact h2 i u hu
        · have hlt := (List.getElem?_eq_some_iff.1 hu).1
          simp only [List.length_append, List.length_singleton] at hlt
          obtain rfl : i = l := by omega
          rw [List.getElem?_append_right (by omega), h1, Nat.sub_self] at hu
          simp only [List.getElem?_cons_zero, Option.some.injEq] at hu
          subst hu; exact h3
    obtain ⟨ts, h1, h2⟩ := hT len (Nat.le_refl _)
    refine ⟨a, len, cap, ts, by simpa using hcs, h1, hlen, fun t ht => ?_, fun hp => ?_⟩
    · obtain ⟨i, hi⟩ := List.getElem?_of_mem ht
      exact (h2 i t hi).2
    · obtain ⟨b, o, spot⟩ := a
      obtain ⟨t0, ht0⟩ : ∃ t, ts[0]? = some t := ⟨_, List.getElem?_eq_getElem (by omega)⟩
      have h0 := (h2 0 t0 ht0).1 0 (by decide)
      have hspot : spot = none := by simpa [Addr.add] using World.cell?_spot (a := (⟨b, o, spot⟩ : Addr).add (0 * 5 + 0)) h0
      subst hspot
      refine ⟨b, o, rfl, fun i t ht => ?_⟩
      have hc := (h2 i t ht).1
      have ha : ∀ j, (⟨b, o, none⟩ : Addr).add (i * 5 + j) = ⟨b, o + i * 5 + j, none⟩ := fun j => by rw [Addr.add_lit, Nat.add_assoc]
      have c0 := hc 0 (by decide)
      have c1 := hc 1 (by decide)
      have c2 := hc 2 (by decide)
      have c3 := hc 3 (by decide)
      have c4 := hc 4 (by decide)
      rw [ha] at c0 c1 c2 c3 c4
      exact ⟨c0, c1, c2, c3, c4⟩
end

end Go.Proofs.Ytaodjipnffgihaa
