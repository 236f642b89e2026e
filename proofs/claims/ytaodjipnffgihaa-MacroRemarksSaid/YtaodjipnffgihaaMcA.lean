/- Rows of texts: where they lie. -/
import Derived.Test.YtaodjipnffgihaaBares0
namespace Go.Proofs.Ytaodjipnffgihaa
open Go.RowKit Go.Shelf

def stV (ss : List ByteArray) : List Value := ss.map Value.string
def StrAt (W : World) (b o : Nat) (ss : List ByteArray) : Prop := ∀ i s, ss[i]? = some s → W.cell? ⟨b, o + i, none⟩ = some (.string s)
def StrIn (W : World) (a : Option Addr) (ss : List ByteArray) : Prop := 0 < ss.length → ∃ b o, a = some ⟨b, o, none⟩ ∧ b < W.heap.size ∧ StrAt W b o ss
theorem StrAt.below {B b o : Nat} {W W' : World} {ss : List ByteArray} (h : StrAt W b o ss) (hb : Below B W W') (hlt : b < B) : StrAt W' b o ss := fun i s hs =>
  (hb.cell (p := ⟨b, o + i, none⟩) hlt).trans (h i s hs)
theorem StrIn.below {W W' : World} {a : Option Addr} {ss : List ByteArray} (h : StrIn W a ss) (hb : Below W.heap.size W W') : StrIn W' a ss := fun hp => by
  obtain ⟨b, o, e, hlt, ht⟩ := h hp
  exact ⟨b, o, e, Nat.lt_of_lt_of_le hlt hb.size, ht.below hb hlt⟩
theorem stV_len (ss : List ByteArray) : (stV ss).length = ss.length := List.length_map ..
theorem stV_one (ss : List ByteArray) : ∀ u ∈ stV ss, u.oneCell' = true := by
  intro u hu
  unfold stV at hu
  rw [List.mem_map] at hu
  obtain ⟨s, _, rfl⟩ := hu
  rfl
theorem stV_get {ss : List ByteArray} {i : Nat} {s : ByteArray} (h : ss[i]? = some s) : (stV ss)[i]? = some (.string s) := by
  unfold stV; rw [List.getElem?_map, h]; rfl
theorem stV_inv {ss : List ByteArray} {i : Nat} {u : Value} (h : (stV ss)[i]? = some u) : ∃ s, ss[i]? = some s ∧ u = .string s := by
  unfold stV at h
  rw [List.getElem?_map] at h
  cases hs : ss[i]? with
  | none => rw [hs] at h; cases h
  | some s => rw [hs] at h; exact ⟨s, rfl, by simpa using h.symm⟩
theorem stV_snoc (ss : List ByteArray) (s : ByteArray) : stV (ss ++ [s]) = stV ss ++ [.string s] := by simp [stV]
theorem stV_at {W : World} {b o : Nat} {ss : List ByteArray} (h : StrAt W b o ss) : ∀ j u, (stV ss)[j]? = some u → W.cell? ((⟨b, o, none⟩ : Addr).add j) = some u := by
  intro j u hj
  obtain ⟨s, hs, rfl⟩ := stV_inv hj
  rw [Addr.add_lit]
  exact h j s hs
theorem strIn_row {w : World} {base n cap : Nat} {T : TypeId} {a : Option Addr} {ss : List ByteArray} (hn : ss.length = n) (h : w.ownsRow base T 1 (.slice a n cap) n (stV ss)) : StrIn w a ss := fun hp => by
  obtain ⟨g, rfl, hg, hc⟩ := row_pos (by omega) h
  exact ⟨g, 0, rfl, hg, fun i s hs => by rw [Nat.zero_add]; exact hc i _ (stV_get hs)⟩
/-- A list written out. -/
theorem strIn_new {W : World} {B : Nat} {T : TypeId} {cs : Array Value} {ss : List ByteArray} (h : W.heap[B]? = some (.cells cs T (0, 0))) (hc : cs.toList = stV ss) : StrIn W (some ⟨B, 0, none⟩) ss := fun _ =>
  ⟨B, 0, rfl, (Array.getElem?_eq_some_iff.1 h).1, fun i s hs => by
    rw [Lib.cell_of_heap h, Nat.zero_add, ← Array.getElem?_toList, hc]
    exact stV_get hs⟩
theorem strIn_one (w : World) (T : TypeId) (cs : Array Value) (ss : List ByteArray) (hc : cs.toList = stV ss) : StrIn (w.alloc (.cells cs T)) (some ⟨w.heap.size, 0, none⟩) ss :=
  strIn_new (World.alloc_heap_new w _) hc
theorem strIn_two (w : World) (o : Obj) (T : TypeId) (cs : Array Value) (ss : List ByteArray) (hc : cs.toList = stV ss) : StrIn ((w.alloc o).alloc (.cells cs T)) (some ⟨w.heap.size + 1, 0, none⟩) ss := by
  have := strIn_one (w.alloc o) T cs ss hc
  rw [World.size_alloc] at this
  exact this

end Go.Proofs.Ytaodjipnffgihaa
