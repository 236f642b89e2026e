/- Rows that the call owns, read; two equal lists of rows are the same. -/
import Derived.Test.YtpomcdolpmbhdaaTwin
import Derived.BigQuiet
import Derived.Deep.QuietTactic
namespace Go.Proofs.Ytpomcdolpmbhdaa
open Go.RowKit

theorem rzVals_get : ∀ {rs : List Rz} {vs : List Value} {i : Nat} {r : Rz} {v : Value}, rs[i]? = some r → vs[i]? = some v → (rzVals rs vs)[i * 3]? = some (.bool r.d) ∧ (rzVals rs vs)[i * 3 + 1]? = some (.string r.nm) ∧ (rzVals rs vs)[i * 3 + 2]? = some v
  | [], _, i, r, v, h, _ => by simp at h
  | _ :: _, [], i, r, v, _, h => by simp at h
  | q :: rs, u :: vs, 0, r, v, h, h2 => by
    simp only [List.getElem?_cons_zero, Option.some.injEq] at h h2
    subst h h2
    rw [rzVals]; exact ⟨rfl, rfl, rfl⟩
  | q :: rs, u :: vs, i + 1, r, v, h, h2 => by
    simp only [List.getElem?_cons_succ] at h h2
    obtain ⟨h3, h4, h5⟩ := rzVals_get h h2
    rw [rzVals]
    have e : ∀ j, ([Value.bool q.d, .string q.nm, u] ++ rzVals rs vs)[(i + 1) * 3 + j]? = (rzVals rs vs)[i * 3 + j]? := fun j => by
      rw [List.getElem?_append_right (by simp; omega)]
      congr 1
      simp; omega
    have e0 := e 0
    rw [Nat.add_zero, Nat.add_zero] at e0
    rw [e0, e 1, e 2]
    exact ⟨h3, h4, h5⟩

theorem TokOwn.at {W : World} {B : Nat} {v : Value} {ts : List Tz} (h : TokOwn W B v ts) : ∃ a cap, v = .slice a ts.length cap ∧ ToksAt W W.heap.size a ts := by
  obtain ⟨a, cap, rfl, h1, _, _⟩ := tz_shape rfl h
  refine ⟨a, cap, rfl, fun hp => ?_⟩
  obtain ⟨g, rfl, hg, hr⟩ := h1 hp
  exact ⟨g, 0, rfl, hg, hr.at⟩
theorem OwnRz.at {W : World} {B : Nat} {v : Value} {rs : List Rz} {vs : List Value} (h : OwnRz W B v rs vs) : ∃ a cap, v = .slice a rs.length cap ∧ (0 < rs.length → ∃ g, a = some ⟨g, 0, none⟩ ∧ B ≤ g ∧ g < W.heap.size ∧ RzAt W W.heap.size g 0 rs) := by
  obtain ⟨a, cap, rfl⟩ := row_shape h.row
  refine ⟨a, cap, rfl, fun hp => ?_⟩
  obtain ⟨g, rfl, hg, hc⟩ := row_pos hp h.row
  refine ⟨g, rfl, (h.row.lt g rfl).1, hg, fun i r hr => ?_⟩
  obtain ⟨u, hu⟩ : ∃ u, vs[i]? = some u := ⟨_, List.getElem?_eq_getElem (by rw [← h.len]; exact (List.getElem?_eq_some_iff.1 hr).1)⟩
  obtain ⟨h1, h2, h3⟩ := rzVals_get hr hu
  obtain ⟨a', cap', rfl, ht⟩ := (h.ts i r u hr hu).at
  rw [Nat.zero_add]
  exact ⟨hc _ _ h1, hc _ _ h2, a', cap', hc _ _ h3, ht⟩

theorem quiet_add2 {P : Program} {f : FuncId} {args : Array Value} {w : World} {m x : Nat} {v : Value} (h : Calls P f args (w.drewN (m + x)) fun e w' => e = .returned v ∧ ∃ q, w' = (w.drewN (m + x)).drewN q) :
    Calls P f args (w.drewN (m + x)) fun e w'' => e = .returned v ∧ ∃ n, w'' = w.drewN (m + n) := h.mono fun _ _ ⟨he, q, hm⟩ => ⟨he, x + q, by rw [hm, World.drewN_drewN, Nat.add_assoc]⟩
/-- Where a list of rows can be read. -/
def RzIn (W : World) (a : Option Addr) (rs : List Rz) : Prop := 0 < rs.length → ∃ b o, a = some ⟨b, o, none⟩ ∧ b < W.heap.size ∧ RzAt W W.heap.size b o rs
theorem RzIn.below {W W' : World} {a : Option Addr} {rs : List Rz} (h : RzIn W a rs) (hb : Below W.heap.size W W') : RzIn W' a rs := fun hp => by
  obtain ⟨b, o, e, hlt, hr⟩ := h hp
  exact ⟨b, o, e, Nat.lt_of_lt_of_le hlt hb.size, (hr.below hb hlt).mono hb.size⟩

set_option maxRecDepth 100000 in
set_option maxHeartbeats 2000000 in
theorem rsame_any (rs : List Rz) (n c1 c2 : Nat) (a1 a2 : Option Addr) (w : World) (hn : rs.length = n) (hn2 : n * 48 ≤ 140737488355328) (hts : ∀ r ∈ rs, r.ts.length * 48 ≤ 140737488355328)
    (h1 : RzIn w a1 rs) (h2 : RzIn w a2 rs) :
    Calls Try.prog 11 #[.slice a1 n c1, .slice a2 n c2] w fun e w' => e = .returned (.bool true) ∧ ∃ q, w' = w.drewN q := by
  have HN := Lib.hid hn
  have H1 := Lib.hid h1
  have H2 := Lib.hid h2
  have HS := Lib.hid hts
  clear hn h1 h2 hts
  go_enter Try.func11, Try.ntmps11
  go_wp2
  go_loopw [5] (fun i wx => ∃ k : Nat, k ≤ n ∧ i = .int .i64 k ∧ ∃ q, wx = w.drewN q) (fun i _ => n - (intOf i).toNat)
  case atStart => exact ⟨0, Nat.zero_le _, rfl, 0, rfl⟩
  case round =>
    obtain ⟨k, hk, rfl, q, rfl⟩ := hrel
    by_cases hlt : k < n
    · obtain ⟨r, hr⟩ : ∃ r, rs[k]? = some r := ⟨_, List.getElem?_eq_getElem (by rw [HN.out]; exact hlt)⟩
      obtain ⟨b, o, rfl, _, hr1⟩ := H1.out (by rw [HN.out]; omega)
      obtain ⟨c0, c1', ta, tcap, c2', htk⟩ := hr1 k r hr
      obtain ⟨b2, o2, rfl, _, hr2⟩ := H2.out (by rw [HN.out]; omega)
      obtain ⟨d0, d1, ta2, tcap2, d2, htk2⟩ := hr2 k r hr
      have hrl := HS.out r (List.mem_of_getElem? hr)
      have CS := fun q' => same_any r.ts r.ts.length tcap tcap2 ta ta2 (w.drewN q') rfl (by unfold maxLen; omega) (fun hp => by obtain ⟨b, o, e, _, h⟩ := htk hp; exact ⟨b, o, e, h⟩) (fun hp => by obtain ⟨b, o, e, _, h⟩ := htk2 hp; exact ⟨b, o, e, h⟩)
      clear hr hr1 hr2 htk htk2
      have j1 : (k : Int) < (n : Int) := by omega
      have j0 : (0 : Int) ≤ (k : Int) := by omega
      go_wp2
      go_big_quiet ((go_at_call 14; exact quiet_add2 (CS _)))
      go_wp2
      go_big_quiet (fail)
      go_wp2
      refine ⟨⟨k + 1, by omega, by go_num, _, rfl⟩, ?_⟩
      simp [intOf]; omega
    · go_wp2
      go_ret
      exact ⟨rfl, q, rfl⟩

end Go.Proofs.Ytpomcdolpmbhdaa
