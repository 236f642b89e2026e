/- scan.firstTokens. -/
import Derived.Test.YtaodjipnffgihaaIt
import Derived.Test.YtaodjipnffgihaaRange
import Derived.Test.YtaodjipnffgihaaGen
namespace Go.Proofs.Ytaodjipnffgihaa
open Go.RowKit Go.Shelf

attribute [local go_sem] Oper.semAt_some

/-- Every block of cells of Y stands in W as it stood. -/
def KeptC (Y W : World) : Prop := Y.heap.size ≤ W.heap.size ∧ ∀ (k : Nat) (c : Array Value) (T : TypeId) (fz : Nat × Nat), Y.heap[k]? = some (.cells c T fz) → W.heap[k]? = some (.cells c T fz)
theorem KeptC.of_below {Y W : World} (h : Below Y.heap.size Y W) : KeptC Y W := ⟨h.size, fun k _ _ _ hk => (h.block k (Array.getElem?_eq_some_iff.1 hk).1).trans hk⟩
theorem KeptC.own {B : Nat} (Y : World) : OwnFrom B (fun (_ : Unit) W => KeptC Y W) := fun _ X Z row hs hg hr => ⟨Nat.le_trans hs.1 hg.size, fun k c T fz hk => by
  have hX := hs.2 k c T fz hk
  refine (hg.block k (Array.getElem?_eq_some_iff.1 hX).1 (fun e => ?_)).trans hX
  obtain ⟨_, o, ho, hc⟩ := hr k e.symm
  rw [hX] at ho; cases ho; cases hc⟩

theorem libVar_cells {w : World} (h : LibVar w) : ∃ c T fz, w.heap[0]? = some (Obj.cells c T fz) := by
  obtain ⟨m, hm⟩ := h
  cases hb : w.heap[0]? with
  | none => simp [World.cell?, hb] at hm
  | some o => cases o <;> first | exact ⟨_, _, _, rfl⟩ | simp [World.cell?, hb] at hm
theorem libVar_same {w w' : World} (h : LibVar w) (he : w'.heap[0]? = w.heap[0]?) : LibVar w' := by
  obtain ⟨m, hm⟩ := h
  exact ⟨m, (World.cell?_of_block (a := ⟨0, 0, none⟩) he).trans hm⟩

theorem lastKept_put {Bl Bn : Nat} {Y W : World} {l : Nat} {o : Obj} (o' : Obj) (hl : W.heap[l]? = some o) (ho : o.isCells = false) (h : LastKept Bl Bn Y W) : LastKept Bl Bn Y (W.putObj l o') := by
  have hne : ∀ k c T fz, W.heap[k]? = some (Obj.cells c T fz) → (W.putObj l o').heap[k]? = some (Obj.cells c T fz) := fun k c T fz hk => by
    by_cases e : k = l
    · subst e; rw [hl] at hk; cases hk; cases ho
    · exact (World.putObj_heap_other e).trans hk
  have hs : (W.putObj l o').heap.size = W.heap.size := by simp [World.putObj]
  refine ⟨by rw [hs]; exact h.size, fun c fz hk hp => hne _ _ _ _ (h.last c fz hk hp), fun hok => ?_, fun v hv => hne _ _ _ _ (h.box v hv), fun hL => ?_⟩
  · obtain ⟨v, hv, h2⟩ := h.ok hok
    exact ⟨v, hne _ _ _ _ hv, fun k hk => by rw [hs]; exact h2 k hk⟩
  · have hL2 := h.lib hL
    obtain ⟨c, T, fz, hc⟩ := libVar_cells hL2
    exact libVar_same hL2 ((hne _ _ _ _ hc).trans hc.symm)

/-- A round that has changed nothing. -/
theorem lastKept_same {Bl Bn : Nat} {Y W : World} (h : KeptC Y W) : LastKept Bl Bn Y W := by
  refine ⟨h.1, fun c fz hk _ => h.2 _ _ _ _ hk, fun ⟨v, hv, h2⟩ => ⟨v, h.2 _ _ _ _ hv, fun k hk => Nat.lt_of_lt_of_le (h2 k hk) h.1⟩, fun v hv => h.2 _ _ _ _ hv, fun hL => ?_⟩
  obtain ⟨c, T, fz, hc⟩ := libVar_cells hL
  exact libVar_same hL ((h.2 _ _ _ _ hc).trans hc.symm)

/-- A round that has appended to the row at Bl. -/
theorem lastKept_app {Bl Bn base m : Nat} {Y W w1 : World} {v v' : Value} {k : Nat} {xs ys : List Value} {tmp : Obj}
    (hG : 0 < base) (hB : base ≤ Bl) (h : KeptC Y W) (hYv : Boxed Y Bl 22 v) (hrow : W.ownsRow base 49 5 v k xs)
    (hown' : w1.ownsRow base 49 5 v' m ys) (hgrow : (W.alloc tmp).grownBy w1 v.ownBlock) : LastKept Bl Bn Y (w1.setCell ⟨Bl, 0, none⟩ v') := by
  have hsz : W.heap.size ≤ w1.heap.size := Nat.le_trans (by simp) hgrow.size
  have hWv : Boxed W Bl 22 v := h.2 _ _ _ _ hYv
  have hv1 : Boxed w1 Bl 22 v := (hWv.alloc tmp).kept hgrow (hWv.not_row (by decide) hrow)
  have hkeep : ∀ j c T fz, Y.heap[j]? = some (Obj.cells c T fz) → v.ownBlock ≠ some j → j ≠ Bl → (w1.setCell ⟨Bl, 0, none⟩ v').heap[j]? = some (Obj.cells c T fz) := fun j c T fz hj h1 h2 => by
    have hW := h.2 _ _ _ _ hj
    have hlt := (Array.getElem?_eq_some_iff.1 hW).1
    rw [Below.heap_setCell _ _ _ _ (fun e => h2 e)]
    refine (hgrow.block j (by simp; omega) (fun e => h1 e.symm)).trans ?_
    exact (Below.heap_alloc _ _ _ (by omega)).trans hW
  have hrowT : ∀ j c T fz, Y.heap[j]? = some (Obj.cells c T fz) → T ≠ 49 → v.ownBlock ≠ some j := fun j c T fz hj hT e => by
    rcases hrow.2 with ⟨rfl, _⟩ | ⟨g, cap, cur, rfl, _, hgb, _⟩
    · simp [Value.ownBlock] at e
    · obtain rfl : g = j := by simpa [Value.ownBlock] using e
      rw [h.2 _ _ _ _ hj] at hgb
      simp only [Option.some.injEq, Obj.cells.injEq] at hgb
      exact hT hgb.2.1
  have hBl : ∀ j c T fz, Y.heap[j]? = some (Obj.cells c T fz) → T ≠ 22 → j ≠ Bl := fun j c T fz hj hT e => by
    subst e
    rw [show Y.heap[j]? = _ from hYv] at hj
    simp only [Option.some.injEq, Obj.cells.injEq] at hj
    exact hT hj.2.1.symm
  refine ⟨by simp; have := h.1; omega, fun c fz hk hp => ?_, fun _ => ?_, fun u hu => ?_, fun hL => ?_⟩
  · rw [ptr_boxed hYv] at hp
    exact hkeep _ _ _ _ hk hp (hBl _ _ _ _ hk (by decide))
  · refine ⟨v', hv1.set v', fun j hj => ?_⟩
    have := (hown'.lt j hj).2
    simpa using this
  · exact hkeep _ _ _ _ hu (hrowT _ _ _ _ hu (by decide)) (hBl _ _ _ _ hu (by decide))
  · obtain ⟨m, hm⟩ := hL
    have hL2 : LibVar Y := ⟨m, hm⟩
    obtain ⟨c, T, fz, hc⟩ := libVar_cells hL2
    refine libVar_same hL2 ((hkeep _ _ _ _ hc (fun e => ?_) (by omega)).trans hc.symm)
    have := (hrow.lt _ e).1
    omega

theorem box_app {W w1 : World} {tmp : Obj} {B base k : Nat} {t e : TypeId} {size : Nat} {u v : Value} {xs : List Value} (hb : Boxed W B t u) (hte : t ≠ e) (hrow : W.ownsRow base e size v k xs) (hgrow : (W.alloc tmp).grownBy w1 v.ownBlock) : Boxed w1 B t u :=
  (hb.alloc tmp).kept hgrow ((hb.alloc tmp).not_row hte (hrow.alloc tmp))

/-! ### Rows of tokens -/

def ydCells (ys : List Yd) : List Value := ys.flatMap fun y => [.int .i64 y.k, .string y.tx, .int .i64 y.a, .int .i64 y.e, .bool y.sp]
def ydCell (y : Yd) : List Value := [.int .i64 y.k, .string y.tx, .int .i64 y.a, .int .i64 y.e, .bool y.sp]
theorem ydCells_snoc (ys : List Yd) (y : Yd) : ydCells (ys ++ [y]) = ydCells ys ++ ydCell y := by simp [ydCells, ydCell]
def ydP {s : ByteArray} (pre : List (Yt s)) : List Yd := pre.map (·.1)
theorem ydP_snoc {s : ByteArray} (pre : List (Yt s)) (x : Yt s) : ydP (pre ++ [x]) = ydP pre ++ [x.1] := by simp [ydP]
theorem ydP_len {s : ByteArray} (pre : List (Yt s)) : (ydP pre).length = pre.length := by simp [ydP]

theorem infoTok : (Try.prog.info? 49).map (fun i => (i.zero, i.size, i.bytes)) = some (some (.agg #[.int .i64 0, .string ⟨#[]⟩, .int .i64 0, .int .i64 0, .bool false]), 5, 48) := by kernel_rfl

/-- The tokens of a logical text, as they are handed over. -/
def toksY (s : ByteArray) : List Yd := (toks s.data.toList 0 0).1.map (tokY s)
def firstOf (s : ByteArray) (m : Nat) : List Yd := (toksY s).take m
theorem ydAll_eq (s : ByteArray) : ydAll s = toksY s ++ if (toks s.data.toList 0 0).2 = 0 then [] else [errY (toks s.data.toList 0 0).2] := rfl
theorem toksY_er {s : ByteArray} : ∀ y ∈ toksY s, y.er = 0 := by
  intro y hy
  obtain ⟨t, _, rfl⟩ := List.mem_map.1 hy
  rfl
theorem ydP_pre {s : ByteArray} {q : List (Yt s)} (h : q <+: yts s) : ydP q <+: ydAll s := by
  rw [← yts_val]
  obtain ⟨t, ht⟩ := h
  exact ⟨t.map (·.1), by rw [← ht]; simp [ydP]⟩

/-- What has been handed over without an error is a beginning of the tokens. -/
theorem pre_toks {s : ByteArray} {q : List (Yt s)} (h : q <+: yts s) (h0 : ∀ p ∈ q, p.1.er = 0) : ydP q <+: toksY s := by
  have h1 := ydP_pre h
  rw [ydAll_eq] at h1
  by_cases he : (toks s.data.toList 0 0).2 = 0
  · rw [if_pos he, List.append_nil] at h1; exact h1
  · rw [if_neg he] at h1
    rcases List.prefix_concat_iff.1 h1 with h2 | h2
    · exfalso
      have hm : errY (toks s.data.toList 0 0).2 ∈ ydP q := by rw [h2]; simp
      obtain ⟨p, hp, hpe⟩ := List.mem_map.1 hm
      have := h0 p hp
      rw [hpe] at this
      exact he this
    · exact h2
/-- Where an error comes, what was ahead of it are all tokens; it is theirs. -/
theorem pre_err {s : ByteArray} {q : List (Yt s)} {x : Yt s} (h : q ++ [x] <+: yts s) (h0 : ∀ p ∈ q, p.1.er = 0) (hx : x.1.er ≠ 0) : ydP q = toksY s ∧ (toks s.data.toList 0 0).2 = x.1.er := by
  have h1 := ydP_pre h
  rw [ydAll_eq, ydP_snoc] at h1
  by_cases he : (toks s.data.toList 0 0).2 = 0
  · exfalso
    rw [if_pos he, List.append_nil] at h1
    have hm : x.1 ∈ toksY s := h1.subset (by simp)
    exact hx (toksY_er _ hm)
  · rw [if_neg he] at h1
    rcases List.prefix_concat_iff.1 h1 with h2 | h2
    · have h3 := List.append_inj' h2 rfl
      have h4 : x.1 = errY (toks s.data.toList 0 0).2 := by simpa using h3.2
      exact ⟨h3.1, by rw [h4]; rfl⟩
    · exfalso
      have hm : x.1 ∈ toksY s := h2.subset (by simp)
      exact hx (toksY_er _ hm)
theorem all_done {s : ByteArray} {q : List (Yt s)} (h : q = yts s) (h0 : ∀ p ∈ q, p.1.er = 0) : ydP q = toksY s ∧ (toks s.data.toList 0 0).2 = 0 := by
  have h1 : ydP q = ydAll s := by rw [h]; exact yts_val s
  rw [ydAll_eq] at h1
  by_cases he : (toks s.data.toList 0 0).2 = 0
  · rw [if_pos he, List.append_nil] at h1; exact ⟨h1, he⟩
  · exfalso
    rw [if_neg he] at h1
    have hm : errY (toks s.data.toList 0 0).2 ∈ ydP q := by rw [h1]; simp
    obtain ⟨p, hp, hpe⟩ := List.mem_map.1 hm
    have := h0 p hp
    rw [hpe] at this
    exact he this
theorem toks_count {l : List UInt8} : ∀ (m e st : Nat), l.length - e ≤ m → e ≤ l.length → (toks l e st).1.length + e ≤ l.length := by
  intro m
  induction m with
  | zero =>
    intro e st hm he
    have := atOf_ge l e
    rw [toks_end he (by omega)]
    simpa using he
  | succ m ih =>
    intro e st hm he
    have hg := atOf_ge l e
    by_cases h1 : l.length ≤ atOf l e
    · rw [toks_end he h1]; simpa using he
    · by_cases h2 : (nextAt l e st).2.2 = 0
      · rw [toks_cons (by omega) h2]
        have h3 := nextAt_len (by omega) h2
        have h5 : (tokAt l e st).e = atOf l e + (nextAt l e st).2.1 := rfl
        have := ih (tokAt l e st).e (stAt l e st) (by rw [h5]; omega) (by rw [h5]; exact h3.2)
        simp only [List.length_cons]
        rw [h5] at this
        rw [h5]
        omega
      · rw [toks_err (by omega) h2]; simpa using he
theorem toksY_len (s : ByteArray) : (toksY s).length ≤ s.size := by
  have := toks_count (l := s.data.toList) _ 0 0 (Nat.le_refl _) (Nat.zero_le _)
  unfold toksY
  rw [List.length_map]
  exact this
theorem yts_len (s : ByteArray) : (yts s).length ≤ s.size + 1 := by
  have h := toksY_len s
  have h2 : (yts s).length = (ydAll s).length := by rw [← yts_val, List.length_map]
  rw [h2, ydAll_eq, List.length_append]
  split <;> simp <;> omega

theorem cell5_new (w : World) (a b c d e : Value) (t : TypeId) : ∀ j u, [a, b, c, d, e][j]? = some u → (w.alloc (.cells #[a, b, c, d, e] t)).cell? ((⟨w.heap.size, 0, none⟩ : Addr).add j) = some u := by
  intro j u hj
  match j, hj with
  | 0, hj => simp at hj; subst hj; simp [Addr.add]
  | 1, hj => simp at hj; subst hj; simp [Addr.add]
  | 2, hj => simp at hj; subst hj; simp [Addr.add]
  | 3, hj => simp at hj; subst hj; simp [Addr.add]
  | 4, hj => simp at hj; subst hj; simp [Addr.add]
  | j + 5, hj => simp at hj

def TrY {s : ByteArray} (_ : List (Yt s)) (_ : Value) : Prop := True
def erOk {s : ByteArray} (m : Nat) (pre : List (Yt s)) : Prop := (∀ p ∈ pre, p.1.er = 0) ∧ pre.length < m

/-- How the loop is left: there are enough, or an error has come. -/
def StopF {s : ByteArray} (m : Nat) (q pre : List (Yt s)) : Prop := (pre = q ∧ (∀ p ∈ q, p.1.er = 0) ∧ q.length = m) ∨ ∃ x, pre = q ++ [x] ∧ x.1.er ≠ 0 ∧ erOk m q
theorem stop_first {s : ByteArray} {m : Nat} {q pre : List (Yt s)} (h : StopF m q pre) (hp : pre <+: yts s) : ydP q = firstOf s m := by
  rcases h with ⟨rfl, h0, hl⟩ | ⟨x, rfl, hx, h0, hl⟩
  · obtain ⟨t, ht⟩ := pre_toks hp h0
    unfold firstOf
    rw [← ht, ← hl, ← ydP_len pre, List.take_left]
  · have h1 := (pre_err hp h0 hx).1
    unfold firstOf
    rw [← h1, List.take_of_length_le (by rw [ydP_len]; omega)]
theorem done_first {s : ByteArray} {m : Nat} {q : List (Yt s)} (h : q = yts s) (h0 : erOk m q) : ydP q = firstOf s m := by
  have h1 := (all_done h h0.1).1
  unfold firstOf
  rw [← h1, List.take_of_length_le (by rw [ydP_len]; have := h0.2; omega)]

end Go.Proofs.Ytaodjipnffgihaa
