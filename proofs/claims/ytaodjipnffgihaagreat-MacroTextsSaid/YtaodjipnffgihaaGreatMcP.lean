/- Small facts of layer 5 that both sides need. -/
import Derived.Test.YtaodjipnffgihaaGreatMcT
import Derived.Test.YtaodjipnffgihaaGreatMzG
namespace Go.Proofs.YtaodjipnffgihaaGreat
open Go.RowKit Go.Shelf

theorem parP_two (acc : List ByteArray) (t u : Tz) (l : List Tz) : parP acc (t :: u :: l) = if isP t [46, 46, 46] then (if isP u [41] then finS acc true l else none) else if wordP t then (if isP u [44] then parP (acc ++ [t.tx]) l else if isP u [41] then finS (acc ++ [t.tx]) false l else none) else none := by rw [parP]
theorem infoS : (Tryz.prog.info? 9).map (fun i => (i.zero, i.size, i.bytes)) = some (some (.string ⟨#[]⟩), 1, 16) := by kernel_rfl
theorem cellS_new (w : World) (a : Value) (t : TypeId) : ∀ j u, [a][j]? = some u → (w.alloc (.cells #[a] t)).cell? ((⟨w.heap.size, 0, none⟩ : Addr).add j) = some u := by
  intro j u hj
  match j, hj with
  | 0, hj => simp at hj; subst hj; simp [Addr.add]
  | j + 1, hj => simp at hj
theorem finS_yes {acc : List ByteArray} {v : Bool} {l : List Tz} (h : distS acc = true) : finS acc v l = some (acc, v, l) := by unfold finS; rw [h]; rfl

end Go.Proofs.YtaodjipnffgihaaGreat
