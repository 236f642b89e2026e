/- Rows that the call owns, read; two equal lists of rows are the same. -/
import Derived.Test.YtaodjipnffgihaaTwin
import Derived.BigQuiet
import Derived.Deep.QuietTactic
namespace Go.Proofs.Ytaodjipnffgihaa
open Go.RowKit

theorem rzVals_get : ∀ {rs : List Rz} {vs : List Value} {i : Nat} {r : Rz} {v : Value}, rs[i]? = some r → vs[i]? = some v → (rzVals rs vs)[i * 3]? = some (.bool r.d) ∧ (rzVals rs vs)[i * 3 + 1]? = some (.string r.nm) ∧ (rzVals rs vs)[i * 3 + 2]? = some v
  | [], _, i, r, v, h, _ => by simp at h
  | _ :: _, [], i, r, v, _, h => by simp at h
  | q :: rs, u :: vs, 0, r, v, h, h2 => by
    simp only [List.getElem?_cons_zero, Option.some.injEq] at h h2
    subst h h2
    rw [rzVals]; exact ⟨rfl, rfl, rfl⟩
  | q :: rs, u :: vs, i + 1, r, v, h, h2 => by
    simp only [List.getElem?_cons_succ] at h h2
    obtain ⟨h3, h4, h5⟩ := rzVals_get h h2
    rw [rzVals]
    have e : ∀ j, ([Value.bool q.d, .string q.nm, u] ++ rzVals rs vs)[(i + 1) * 3 + j]? = (rzVals rs vs)[i * 3 + j]? := fun j => by
      rw [List.getElem?_append_right (by simp; omega)]
      congr 1
      simp; omega
    have e0 := e 0
    rw [Nat.add_zero, Nat.add_zero] at e0
    rw [e0, e 1, e 2]
    exact ⟨h3, h4, h5⟩

theorem TokOwn.at {W : World} {B : Nat} {v : Value} {ts : List Tz} (h : TokOwn W B v ts) : ∃ a cap, v = .slice a ts.length cap ∧ ToksAt W W.heap.size a ts := by
  obtain ⟨a, cap, rfl, h1, _, _⟩ := tz_shape rfl h
  refine ⟨a, cap, rfl, fun hp => ?_⟩
  obtain ⟨g, rfl, hg, hr⟩ := h1 hp
  exact ⟨g, 0, rfl, hg, hr.at⟩
theorem OwnRz.at {W : World} {B : Nat} {v : Value} {rs : List Rz} {vs : List Value} (h : OwnRz W B v rs vs) : ∃ a cap, v = .slice a rs.length cap ∧ (0 < rs.length → ∃ g, a = some ⟨g, 0, none⟩ ∧ B ≤ g ∧ g < W.heap.size ∧ RzAt W W.heap.size g 0 rs) := by
  obtain ⟨a, cap, rfl⟩ := row_shape h.row
  refine ⟨a, cap, rfl, fun hp => ?_⟩
  obtain ⟨g, rfl, hg, hc⟩ := row_pos hp h.row
  refine ⟨g, rfl, (h.row.lt g rfl).1, hg, fun i r hr => ?_⟩
  obtain ⟨u, hu⟩ : ∃ u, vs[i]? = some u := ⟨_, List.getElem?_eq_getElem (by rw [← h.len]; exact (List.getElem?_eq_some_iff.1 hr).1)⟩
  obtain ⟨h1, h2, h3⟩ := rzVals_get hr hu
  obtain ⟨a', cap', rfl, ht⟩ := (h.ts i r u hr hu).at
  rw [Nat.zero_add]
  exact ⟨hc _ _ h1, hc _ _ h2, a', cap', hc _ _ h3, ht⟩

theorem quiet_add2 {P : Program} {f : FuncId} {args : Array Value} {w : World} {m x : Nat} {v : Value} (h : Calls P f args (w.drewN (m + x)) fun e w' => e = .returned v ∧ ∃ q, w' = (w.drewN (m + x)).drewN q) :
    Calls P f args (w.drewN (m + x)) fun e w'' => e = .returned v ∧ ∃ n, w'' = w.drewN (m + n) := h.mono fun _ _ ⟨he, q, hm⟩ => ⟨he, x + q, by rw [hm, World.drewN_drewN, Nat.add_assoc]⟩
/-- Where a list of rows can be read. -/
def RzIn (W : World) (a : Option Addr) (rs : List Rz) : Prop := 0 < rs.length → ∃ b o, a = some ⟨b, o, none⟩ ∧ b < W.heap.size ∧ RzAt W W.heap.size b o rs
theorem RzIn.below {W W' : World} {a : Option Addr} {rs : List Rz} (h : RzIn W a rs) (hb : Below W.heap.size W W') : RzIn W' a rs := fun hp => by
  obtain ⟨b, o, e, hlt, hr⟩ := h hp
  exact ⟨b, o, e, Nat.lt_of_lt_of_le hlt hb.size, (hr.below hb hlt).mono hb.size⟩

end Go.Proofs.Ytaodjipnffgihaa
