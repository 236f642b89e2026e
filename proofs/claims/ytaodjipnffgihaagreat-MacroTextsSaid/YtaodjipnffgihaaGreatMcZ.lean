/- The law MacroDefines: its walk. -/
import Derived.Test.YtaodjipnffgihaaGreatMcV
import Derived.Test.YtaodjipnffgihaaGreatMcY
import Derived.Test.YtaodjipnffgihaaGreatMcW
namespace Go.Proofs.YtaodjipnffgihaaGreat
open Go.RowKit Go.Shelf

theorem rDefine_any (ts : List Tz) (n cap : Nat) (a : Option Addr) (w : World) (hn : ts.length = n) (hnc : n ≤ cap) (hn2 : n * 48 ≤ 140737488355328) (hT : TzIn w a ts) :
    Calls Tryz.prog 18 #[.slice a n cap] w (DefRes w (defineS ts)) := by
  match ts, hn, hT with
  | [], hn, _ =>
    obtain rfl : n = 0 := hn.symm
    exact rDefine_nil cap a w
  | t :: r, hn, hT =>
    cases hk : (t.k == 1) with
    | false => exact rDefine_kind t r n cap a w hn hnc hn2 hT hk
    | true =>
      cases hnm : nameP t with
      | false => exact rDefine_among t r n cap a w hn hnc hn2 hT hk hnm
      | true =>
        match r, hn, hT with
        | [], hn, hT =>
          by_cases hc : cap = 1
          · exact rDefine_one1 t n cap a w hn hnc hn2 hT hnm hc
          · exact rDefine_one2 t n cap a w hn hnc hn2 hT hnm hc
        | u :: r, hn, hT =>
          cases hsp : u.sp with
          | true => exact rDefine_two t u r n cap a w hn hnc hn2 hT hnm hsp
          | false =>
            cases hpo : isP u [40] with
            | false => exact rDefine_noopen t u r n cap a w hn hnc hn2 hT hnm hsp hpo
            | true =>
              cases hcp : cutP r with
              | none => exact rDefine_noparams t u r n cap a w hn hnc hn2 hT hnm hsp hpo hcp
              | some x =>
                obtain ⟨p, vr, l⟩ := x
                by_cases hl : l = []
                · by_cases hc : cap = n
                  · exact rDefine_par1 t u r p vr l n cap a w hn hnc hn2 hT hnm hsp hpo hcp hl hc
                  · exact rDefine_par2 t u r p vr l n cap a w hn hnc hn2 hT hnm hsp hpo hcp hl hc
                · exact rDefine_par3 t u r p vr l n cap a w hn hnc hn2 hT hnm hsp hpo hcp hl

theorem defineS_fit {ts : List Tz} {m : Mz} (h : defineS ts = some m) : m.ps.length ≤ ts.length ∧ m.bs.length ≤ ts.length ∧ ∀ p ∈ m.bs, p.ps = [] := by
  unfold defineS at h
  cases hh : headS ts with
  | none => rw [hh] at h; cases h
  | some x =>
    obtain ⟨q, l⟩ := x
    rw [hh] at h
    simp only at h
    obtain ⟨h1, h2, _, _, _⟩ := headS_fit hh
    split at h
    · cases h
      refine ⟨h2, ?_, fun p hp => ?_⟩
      · show (firstNo (l.map pzOf)).length ≤ _
        rw [firstNo_len, List.length_map]; exact h1
      · have hp2 : p ∈ firstNo (l.map pzOf) := hp
        cases hl : l.map pzOf with
        | nil => rw [hl] at hp2; cases hp2
        | cons q r =>
          have hq : ∀ x ∈ q :: r, x.ps = [] := fun x hx => by
            rw [← hl] at hx
            obtain ⟨y, _, rfl⟩ := List.mem_map.1 hx
            rfl
          rw [hl] at hp2
          rcases List.mem_cons.1 hp2 with rfl | h
          · exact hq q List.mem_cons_self
          · exact hq p (List.mem_cons_of_mem _ h)
    · cases h
/-- A row of lo and above, below hi, that may be written to. -/
def RowW (W : World) (lo hi : Nat) (T : TypeId) (z : Nat) (a : Option Addr) (n : Nat) : Prop := 0 < n → ∃ (g : Nat) (cur : Array Value), a = some ⟨g, 0, none⟩ ∧ lo ≤ g ∧ g < hi ∧ W.heap[g]? = some (.cells cur T (0, 0)) ∧ n * z ≤ cur.size
theorem rowW_of {W : World} {lo n cap z : Nat} {T : TypeId} {a : Option Addr} {xs : List Value} (h : W.ownsRow lo T z (.slice a n cap) n xs) : RowW W lo W.heap.size T z a n := fun hp => by
  rcases h.2 with ⟨h1, h2⟩ | ⟨g, c, cur, h1, hg, hh, h3, h4, h5, h6⟩
  · omega
  · cases h1
    exact ⟨g, cur, rfl, hg, (Array.getElem?_eq_some_iff.1 hh).1, hh, by rw [h5]; exact Nat.mul_le_mul_right z h3⟩
theorem rowW_lo {W : World} {lo lo' hi n z : Nat} {T : TypeId} {a : Option Addr} (hl : lo' ≤ lo) (h : RowW W lo hi T z a n) : RowW W lo' hi T z a n := fun hp => by
  obtain ⟨g, cur, e, h1, h2, h3, h4⟩ := h hp
  exact ⟨g, cur, e, Nat.le_trans hl h1, h2, h3, h4⟩
theorem RowW.below {W W' : World} {lo hi n z : Nat} {T : TypeId} {a : Option Addr} (h : RowW W lo hi T z a n) (hb : Below W.heap.size W W') : RowW W' lo hi T z a n := fun hp => by
  obtain ⟨g, cur, e, h1, h2, h3, h4⟩ := h hp
  exact ⟨g, cur, e, h1, h2, (hb.block g (Array.getElem?_eq_some_iff.1 h3).1).trans h3, h4⟩
theorem RowW.set {W : World} {lo hi n z b j : Nat} {T : TypeId} {a : Option Addr} {u : Value} (h : RowW W lo hi T z a n) : RowW (W.setCell ⟨b, j, none⟩ u) lo hi T z a n := fun hp => by
  obtain ⟨g, cur, e, h1, h2, h3, h4⟩ := h hp
  by_cases hg : g = b
  · subst hg
    refine ⟨g, cur.setIfInBounds j u, e, h1, h2, ?_, by simpa using h4⟩
    simp [World.setCell, Array.getElem?_modify, h3]
  · exact ⟨g, cur, e, h1, h2, (Below.heap_setCell _ _ _ _ hg).trans h3, h4⟩
theorem rowW_cell {W : World} {g j : Nat} {cur : Array Value} {T : TypeId} (h : W.heap[g]? = some (.cells cur T (0, 0))) (hj : j < cur.size) : ∃ u, W.cell? ⟨g, j, none⟩ = some u := by
  rw [Lib.cell_of_heap h]
  exact ⟨_, Array.getElem?_eq_getElem hj⟩
theorem rowW_frozen {W : World} {g j : Nat} {cur : Array Value} {T : TypeId} (h : W.heap[g]? = some (.cells cur T (0, 0))) : W.frozen? ⟨g, j, none⟩ = false := by
  simp [World.frozen?, h]
/-- What a list defines, with its error. -/
def defM (ts : List Tz) : Mz × Int := match defineS ts with
  | some m => (m, 0)
  | none => (mz0, 50)
theorem defM_fit (ts : List Tz) : (defM ts).1.ps.length ≤ ts.length ∧ (defM ts).1.bs.length ≤ ts.length ∧ ∀ p ∈ (defM ts).1.bs, p.ps = [] := by
  unfold defM
  cases h : defineS ts with
  | none => exact ⟨Nat.zero_le _, Nat.zero_le _, fun p hp => by cases hp⟩
  | some m => exact defineS_fit h
/-- DefRes, laid open. -/
def DefIs (w : World) (m : Mz) (z : Int) (e : Ending) (w' : World) : Prop :=
  (∃ pa pc ba bc, e = .returned (.tuple #[.agg #[.string m.nm, .bool m.fn, .slice pa m.ps.length pc, .bool m.vr, .slice ba m.bs.length bc], .int .i64 z]) ∧ w'.ownsRow w.heap.size 9 1 (.slice pa m.ps.length pc) m.ps.length (stV m.ps) ∧ w'.ownsRow w.heap.size 35 4 (.slice ba m.bs.length bc) m.bs.length (pnCells m.bs)) ∧ Below w.heap.size w w'
theorem DefRes.is {ts : List Tz} {w w' : World} {e : Ending} (h : DefRes w (defineS ts) e w') : DefIs w (defM ts).1 (defM ts).2 e w' := by
  unfold defM
  cases hd : defineS ts with
  | none =>
    rw [hd] at h
    exact ⟨⟨none, 0, none, 0, h.1, World.ownsRow_nil _ _ _ _, World.ownsRow_nil _ _ _ _⟩, h.2⟩
  | some m =>
    rw [hd] at h
    obtain ⟨⟨v, u, he, hr, hu⟩, hb⟩ := h
    obtain ⟨pa, pc, rfl⟩ := row_shape hr
    obtain ⟨ba, bc, rfl⟩ := row_shape hu
    exact ⟨⟨pa, pc, ba, bc, he, hr, hu⟩, hb⟩

end Go.Proofs.YtaodjipnffgihaaGreat
