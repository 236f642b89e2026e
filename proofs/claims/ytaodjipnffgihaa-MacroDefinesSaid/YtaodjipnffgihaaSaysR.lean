/- Two equal lists of numbers; what a row says: the document's answer. -/
import Derived.Test.YtaodjipnffgihaaDepR2
namespace Go.Proofs.Ytaodjipnffgihaa
open Go.RowKit

/-- Where a list of numbers can be read. -/
def IntsIn (W : World) (a : Option Addr) (xs : List Nat) : Prop := 0 < xs.length → ∃ b o, a = some ⟨b, o, none⟩ ∧ ∀ j x, xs[j]? = some x → W.cell? ⟨b, o + j, none⟩ = some (.int .i64 (x : Nat))
/-! ### What a row says -/
def bareL (r : Rz) : List Tz := (bareS r.ts).1
def saysS (r : Rz) : List Tz := if r.d then (if 0 < r.nm.size then (bareL r).drop 2 else (bareL r).drop 1) else bareL r
/-- A slice of tokens that can be read. -/
def TzIn (W : World) (a : Option Addr) (ts : List Tz) : Prop := ToksAt W W.heap.size a ts
theorem TzIn.below {W W' : World} {a : Option Addr} {ts : List Tz} (h : TzIn W a ts) (hb : Below W.heap.size W W') : TzIn W' a ts := (ToksAt.below h hb).mono hb.size

theorem TzAt.drop {W : World} {b o : Nat} {ts : List Tz} (h : TzAt W b o ts) (i : Nat) : TzAt W b (o + i * 5) (ts.drop i) := fun j t ht => by
  rw [List.getElem?_drop] at ht
  have := h (i + j) t ht
  have e : o + (i + j) * 5 = o + i * 5 + j * 5 := by omega
  rw [e] at this
  exact this
theorem row_cap2 {w : World} {base n z cap : Nat} {a : Option Addr} {e : TypeId} {xs : List Value} (h : w.ownsRow base e z (.slice a n cap) n xs) : n ≤ cap := by
  rcases h.2 with ⟨h', h0⟩ | ⟨g', cap', cur, h', _, _, hn, _⟩
  · cases h'; exact Nat.zero_le _
  · cases h'; exact hn
end Go.Proofs.Ytaodjipnffgihaa
