/- Several texts laid together. -/
import Derived.RangeFuncNested
import Derived.Test.YtaodjipnffgihaaRowsS
import Derived.Test.YtaodjipnffgihaaMyD
import Derived.Test.YtaodjipnffgihaaMxA
import Derived.Test.YtaodjipnffgihaaBares0
import Derived.OrdersHeld
import Derived.OrdersIn
import Derived.RangeFuncCalls
import Derived.Test.YtaodjipnffgihaaGen
import Derived.Test.YtaodjipnffgihaaFirst0
import Derived.IntWalk
import Derived.Deep.RegionHeld
import Derived.Deep.QuietTactic

namespace Go.Proofs.Ytaodjipnffgihaa
open Go Go.RowKit

variable {F : Fence} {n : Nat} {P : Program}

/-- The promise of an iterator that tells, at each thing, what it knows of the things ahead of it. -/
def SeqStopsP {α : Type} (F : Fence) (n : Nat) (P : Program) (g : Nat) (lb : Array Value) (encs : α → Array Value) (Kp : World → World → Prop) (S Sp : List α → Prop) (Pm : List α → α → Prop) (w : World) : Prop :=
  ∀ (l : Nat) (J Jx : List α → World → Prop) (W : World), Below w.heap.size w W → AbidesFrom W.heap.size J → AbidesFrom W.heap.size Jx →
    (∀ pre x W1, J pre W1 → Pm pre x → YieldAt F (n - 1) P l (encs x) W1 fun e W' =>
      (e = .returned (.bool true) ∧ J (pre ++ [x]) W' ∧ Kp W1 W') ∨ (e = .returned (.bool false) ∧ Jx (pre ++ [x]) W')) →
    J [] W →
    CallsIn F n P g (#[.func (.yield l) #[] #[]] ++ lb) W fun e W' => (∃ v, e = .returned v) ∧ ((∃ xs, S xs ∧ J xs W') ∨ (∃ pre, Sp pre ∧ Jx pre W'))

/-- How the body of such a round may be left: Y is the world of the handing over. -/
def roundPostP {α : Type} (B : Nat) (Kp : World → World → Prop) (I : List α → World → Prop) (Ix : Code → List α → World → Prop) (xs : List α) (Y W : World) : Exit → Act → World → Prop :=
  ownPostG B (fun _ W' => Kp Y W') I Ix xs W

theorem wpIn_range_told {α : Type} {g : Operand} {ps : Array Tmp} {assign body : Code} {Q : Exit → Act → World → Prop} {a : Act} {w : World}
    (hround : F.round = none) (hn : 1 ≤ n) {gf : Nat} {lb : Array Value} (hg : a.eval g = .func (.func gf) #[] lb) (hF : F.fn gf) (hent : ∀ args w, (callFunc gf args).run P w = .ok (.enter gf args) w)
    {encs : α → Array Value} {Kp : World → World → Prop} {S Sp : List α → Prop} {Pm : List α → α → Prop} {w0 : World} (hseq : SeqStopsP F (n - 1) P gf lb encs Kp S Sp Pm w0)
    (hKp : ∀ (Y W : World) (l : Nat) (o o' : Obj), w.heap.size ≤ l → W.heap[l]? = some o → o.isCells = false → Kp Y W → Kp Y (W.putObj l o')) (hb0 : Below w0.heap.size w0 w) (hps : ∀ x, (encs x).size = ps.size)
    (I : List α → World → Prop) (Ix : Code → List α → World → Prop) (hI : OwnFrom w.heap.size I) (hIx : ∀ c, OwnFrom w.heap.size (Ix c)) (h0 : I [] w)
    (Ax : α → World → Act → World → Prop) (hAx : ∀ x Y a', OwnFrom w.heap.size (fun (_ : Unit) W => Ax x Y a' W))
    (hassign : ∀ (l : Nat) (pre : List α) (x : α) (Y : World) (K : Act → World → Prop), I pre Y → (∀ a' W', KeepsFrom w.heap.size Y W' → I pre W' → Ax x Y a' W' → K a' W') →
      assign.wpIn (F.inRound l) (n - 1 - 1) P (Exit.then K (fun _ _ _ => False)) { tmps := (ps.zip (encs x)).foldl (fun t (p, v) => t.setIfInBounds p v) a.tmps, defers := [] } Y)
    (hbody : ∀ (l : Nat) (pre : List α) (x : α) (Y : World) (a' : Act) (W : World), w.heap.size ≤ l → (∃ r, W.heap[l]? = some (.loop r)) → I pre W → Ax x Y a' W → Pm pre x →
      body.wpIn (F.inRound l) (n - 1 - 1) P (roundPostP w.heap.size Kp I Ix (pre ++ [x]) Y W) a' W)
    (hdone : ∀ (D : Nat) (xs : List α) (W : World), w.heap.size ≤ D → S xs → I xs W → W.heap[D]? = some (.deferred (some [])) → Q .normal { a with defers := { target := .collected D, args := #[] } :: a.defers } W)
    (hstop : ∀ (D : Nat) (c : Code) (pre : List α) (W : World), w.heap.size ≤ D → Sp pre → Ix c pre W → W.heap[D]? = some (.deferred (some [])) → c.wpIn F n P Q { a with defers := { target := .collected D, args := #[] } :: a.defers } W) :
    (Code.rangeFunc g ps assign body).wpIn F n P Q a w := by
  refine wpIn_rangeFunc fun fn hfn => ?_
  rw [hround]
  -- the two blocks that the loop lays: D for what is deferred, D + 1 for its record
  let D := w.heap.size
  have hD : D = w.heap.size := rfl
  obtain ⟨rec, hrec⟩ : ∃ rec : LoopState → Option Code → Loop, rec = fun st pe => { state := st, pending := pe, fn, tmps := a.tmps, params := ps, assign, body, defers := D } := ⟨_, rfl⟩
  obtain ⟨V, hV⟩ : ∃ V, (w.alloc (.deferred (some []))).alloc (.loop (rec .ready none)) = V := ⟨_, rfl⟩
  have lV : V.heap[D + 1]? = some (.loop (rec .ready none)) := by
    have := World.alloc_heap_new (w.alloc (.deferred (some []))) (.loop (rec .ready none))
    rw [World.size_alloc] at this
    rw [← hV]; exact this
  have dV : V.heap[D]? = some (.deferred (some [])) := by
    rw [← hV]; exact (Below.heap_alloc _ _ _ (by simp [hD])).trans (World.alloc_heap_new w _)
  have sV : V.heap.size = D + 2 := by rw [← hV]; simp [hD]
  have bV : Below w0.heap.size w0 V := by
    rw [← hV]; exact hb0.trans ((((Below.refl _ w).alloc (Nat.le_refl _) _).alloc (by simp) _).mono hb0.size)
  have iV : I [] V := by rw [← hV]; exact hI.alloc _ (hI.alloc _ h0)
  -- an abiding thing and the two blocks, behind a growth that the iterator may make
  have keep : ∀ (A B : World) (row : Option Nat), A.grownBy B row → (∀ r, row = some r → V.heap.size ≤ r ∧ ∃ o : Obj, A.heap[r]? = some o ∧ o.isWalk = true) →
      (∀ r, row = some r → w.heap.size ≤ r ∧ ∃ o : Obj, A.heap[r]? = some o ∧ o.isCells = false) := fun A B row _ hr r e => by
    obtain ⟨h1, o, h2, h3⟩ := hr r e
    exact ⟨by omega, o, h2, Obj.not_cells_of_walk h3⟩
  refine ⟨D + 1, [{ target := .collected D, args := #[] }], V, { target := .fn (.func gf) lb, args := #[.func (.yield (D + 1)) #[] #[]] }, V, gf, #[.func (.yield (D + 1)) #[] #[]] ++ lb, V, ?_, ?_, ?_, ?_, fun _ => hn, ?_⟩
  · rw [← hV, hrec]; exact run_enterLoop_outer _ _ _ _ _
  · simp only [resolve, hg]
    simp [go_sem]
  · intro f' hf'
    simp [Target.leads] at hf'
    subst hf'
    exact hF
  · simp [invoke, go_sem, hent]
  refine (hseq (D + 1)
    (fun pre W => I pre W ∧ W.heap[D + 1]? = some (.loop (rec .ready none)) ∧ W.heap[D]? = some (.deferred (some [])))
    (fun pre W => ∃ c, Ix c pre W ∧ W.heap[D + 1]? = some (.loop (rec .done (some c))) ∧ W.heap[D]? = some (.deferred (some []))) V bV
    (fun s A B row hs hg' hr => ⟨hI s A B row hs.1 hg' (keep A B row hg' hr), (grownBy_keeps hg' (fun r e => (hr r e).2) hs.2.1 rfl).trans hs.2.1, (grownBy_keeps hg' (fun r e => (hr r e).2) hs.2.2 rfl).trans hs.2.2⟩)
    (fun s A B row hs hg' hr => by
      obtain ⟨c, h1, h2, h3⟩ := hs
      exact ⟨c, hIx c s A B row h1 hg' (keep A B row hg' hr), (grownBy_keeps hg' (fun r e => (hr r e).2) h2 rfl).trans h2, (grownBy_keeps hg' (fun r e => (hr r e).2) h3 rfl).trans h3⟩)
    ?round ⟨iV, lV, dV⟩).mono ?behind
  case behind =>
    rintro e W2 ⟨⟨v, rfl⟩, ⟨xs, hS, hi, hl, hk⟩ | ⟨pre, hSp, c, hi, hl, hk⟩⟩
    · have hr := run_endLoop (P := P) hl (by rw [hrec]; simp)
      rw [hrec] at hr
      exact ⟨none, _, hr, hdone D xs _ (Nat.le_refl _) hS (hI.putObj _ hi (by omega) hl rfl) ((World.putObj_heap_other (by omega)).trans hk)⟩
    · have hr := run_endLoop (P := P) hl (by rw [hrec]; simp)
      rw [hrec] at hr
      exact ⟨some c, _, hr, hstop D c pre _ (Nat.le_refl _) hSp ((hIx c).putObj _ hi (by omega) hl rfl) ((World.putObj_heap_other (by omega)).trans hk)⟩
  case round =>
    rintro pre x Y ⟨iY, lY, dY⟩ hlen
    have hy := run_yield (P := P) (args := encs x) lY (by rw [hrec]; exact hps x)
    rw [hrec] at hy
    refine ⟨fn, _, assign, body, hy, roundIn_of_wpIn hfn (hassign _ pre x Y _ iY ?_)⟩
    intro a' A hkA iA axA
    have lA := hkA.same _ _ (by omega) lY rfl
    have dA := hkA.same _ _ (Nat.le_refl _) dY rfl
    have sA : D + 1 < A.heap.size := (Array.getElem?_eq_some_iff.1 lA).1
    refine ⟨_, run_beginRound lA (by rw [hrec]), ?_⟩
    obtain ⟨Bz, hBz⟩ : ∃ Bz, A.putObj (D + 1) (.loop { rec .ready none with state := .busy }) = Bz := ⟨_, rfl⟩
    have lB : Bz.heap[D + 1]? = some (.loop { rec .ready none with state := .busy }) := by rw [← hBz]; exact World.putObj_heap_same sA
    have dB : Bz.heap[D]? = some (.deferred (some [])) := by rw [← hBz]; exact (World.putObj_heap_other (by omega)).trans dA
    have iB : I pre Bz := by rw [← hBz]; exact hI.putObj _ iA (by omega) lA rfl
    have axB : Ax x Y a' Bz := by rw [← hBz]; exact (hAx x Y a').putObj (s := ()) _ axA (by omega) lA rfl
    rw [hBz]
    refine wpIn_mono (hbody _ pre x Y a' Bz (by omega) ⟨_, lB⟩ iB axB hlen) ?_
    have fin : ∀ (jump : Option Code) (C : World), KeepsFrom w.heap.size Bz C →
        (Instr.endRound (D + 1) jump).run P C = .ok (.bool jump.isNone) (C.putObj (D + 1) (.loop (rec (if jump.isNone then .ready else .done) jump))) ∧
        C.heap[D + 1]? = some (.loop { rec .ready none with state := .busy }) ∧
        (C.putObj (D + 1) (.loop (rec (if jump.isNone then .ready else .done) jump))).heap[D + 1]? = some (.loop (rec (if jump.isNone then .ready else .done) jump)) ∧
        (C.putObj (D + 1) (.loop (rec (if jump.isNone then .ready else .done) jump))).heap[D]? = some (.deferred (some [])) := fun jump C hC => by
      have lC := hC.same _ _ (by omega) lB rfl
      have hr := run_endRound (P := P) jump lC
      rw [hrec] at hr lC ⊢
      exact ⟨hr, lC, World.putObj_heap_same (Array.getElem?_eq_some_iff.1 lC).1, (World.putObj_heap_other (by omega)).trans (hC.same _ _ (Nat.le_refl _) dB rfl)⟩
    rintro e a3 C hp
    have left : ∀ c, KeepsFrom w.heap.size Bz C → Ix c (pre ++ [x]) C → ∃ c', Ix c' (pre ++ [x]) (C.putObj (D + 1) (.loop (rec .done (some c)))) ∧ (C.putObj (D + 1) (.loop (rec .done (some c)))).heap[D + 1]? = some (.loop (rec .done (some c'))) ∧ (C.putObj (D + 1) (.loop (rec .done (some c)))).heap[D]? = some (.deferred (some [])) := fun c hk hi => by
      obtain ⟨_, h2, h3, h4⟩ := fin (some c) C hk
      exact ⟨c, (hIx _).putObj _ hi (by omega) h2 rfl, h3, h4⟩
    cases e with
    | normal =>
      obtain ⟨hk, hkp, hi⟩ := hp
      obtain ⟨hr, h2, h3, h4⟩ := fin none C hk
      exact ⟨_, _, hr, .inl ⟨rfl, ⟨hI.putObj _ hi (by omega) h2 rfl, h3, h4⟩, hKp _ _ _ _ _ (by omega) h2 rfl hkp⟩⟩
    | ret => exact ⟨_, _, (fin (some .ret) C hp.1).1, .inr ⟨rfl, left .ret hp.1 hp.2⟩⟩
    | exit id => exact ⟨_, _, (fin (some (.exit id)) C hp.1).1, .inr ⟨rfl, left (.exit id) hp.1 hp.2⟩⟩
    | goto t => exact ⟨_, _, (fin (some (.goto t)) C hp.1).1, .inr ⟨rfl, left (.goto t) hp.1 hp.2⟩⟩
    | panic ch => exact hp.elim
    | outgrown => exact hp.elim

end Go.Proofs.Ytaodjipnffgihaa

namespace Go.Proofs.Ytaodjipnffgihaa

/-- A line: where it begins, its tokens. -/
structure Ln where
  f : Nat
  l : List Tz
def lnsFrom : Nat → List (List Tz) → List Ln
  | _, [] => []
  | f, l :: ls => ⟨f, l⟩ :: lnsFrom (f + l.length) ls
def lnsAll (ts : List Tz) : List Ln := lnsFrom 0 (linesS ts)
abbrev Lt (ts : List Tz) := { x : Ln // x ∈ lnsAll ts }
def lts (ts : List Tz) : List (Lt ts) := (lnsAll ts).attach
theorem lts_val (ts : List Tz) : (lts ts).map (·.1) = lnsAll ts := by unfold lts; exact List.attach_map_subtype_val _
theorem lnsFrom_val : ∀ (f : Nat) (ls : List (List Tz)), (lnsFrom f ls).map (·.l) = ls
  | _, [] => rfl
  | f, l :: ls => by rw [lnsFrom, List.map_cons, lnsFrom_val]
/-- A line stands where it begins, and is not empty. -/
theorem lnsFrom_in : ∀ (ls : List (List Tz)) (f : Nat) (pre : List Tz), pre.length = f → (∀ l ∈ ls, l ≠ []) → ∀ x ∈ lnsFrom f ls, 0 < x.l.length ∧ ((pre ++ ls.flatten).drop x.f).take x.l.length = x.l ∧ x.f + x.l.length ≤ (pre ++ ls.flatten).length
  | [], _, _, _, _, x, h => by cases h
  | l :: ls, f, pre, hp, hn, x, h => by
    rw [lnsFrom] at h
    rcases List.mem_cons.1 h with rfl | h
    · refine ⟨List.length_pos_iff.2 (hn l List.mem_cons_self), ?_, ?_⟩
      · rw [List.drop_left' hp, List.flatten_cons, List.take_left' rfl]
      · rw [List.length_append, List.flatten_cons, List.length_append]; simp only; omega
    · have := lnsFrom_in ls (f + l.length) (pre ++ l) (by rw [List.length_append, hp]) (fun q hq => hn q (List.mem_cons_of_mem _ hq)) x h
      rw [List.append_assoc, ← List.flatten_cons] at this
      exact this
theorem linesF_flat : ∀ ts : List Tz, (linesS ts).flatten = ts
  | [] => rfl
  | t :: r => by
    have ih := linesF_flat r
    rw [linesS]
    split
    · rw [List.flatten_cons, ih]; rfl
    · cases h : linesS r with
      | nil => rw [h] at ih; rw [← ih]; rfl
      | cons l ls => rw [h] at ih; rw [← ih]; rfl
theorem linesF_ne : ∀ (ts : List Tz), ∀ l ∈ linesS ts, l ≠ []
  | [], l, h => by cases h
  | t :: r, l, h => by
    have ih := linesF_ne r
    rw [linesS] at h
    split at h
    · rcases List.mem_cons.1 h with rfl | h
      · simp
      · exact ih l h
    · cases hr : linesS r with
      | nil =>
        rw [hr] at h
        obtain rfl : l = [t] := by simpa using h
        simp
      | cons a ls =>
        rw [hr] at h ih
        rcases List.mem_cons.1 h with rfl | h
        · simp
        · exact ih l (List.mem_cons_of_mem _ h)
theorem ln_in {ts : List Tz} (x : Lt ts) : 0 < x.1.l.length ∧ (ts.drop x.1.f).take x.1.l.length = x.1.l ∧ x.1.f + x.1.l.length ≤ ts.length := by
  have h := lnsFrom_in (linesS ts) 0 [] rfl (linesF_ne ts) x.1 x.2
  rw [List.nil_append, linesF_flat] at h
  exact h

/-- How far the iterator is: the lines handed over, those to come; a line has begun at f. -/
structure LnAt (ts : List Tz) (f k : Nat) (pre rest : List (Lt ts)) : Prop where
  fk : f ≤ k
  le : k ≤ ts.length
  all : lts ts = pre ++ rest
  nl : noNl ((ts.drop f).take (k - f))
  eq : rest.map (·.1) = lnsFrom f (linesS (ts.drop f))
theorem LnAt.start (ts : List Tz) : LnAt ts 0 0 [] (lts ts) := ⟨Nat.le_refl _, Nat.zero_le _, rfl, (fun t h => by simp at h), lts_val ts⟩
theorem seg_snoc {ts : List Tz} {f k : Nat} {t : Tz} (hf : f ≤ k) (ht : ts[k]? = some t) : (ts.drop f).take (k + 1 - f) = (ts.drop f).take (k - f) ++ [t] := by
  rw [show k + 1 - f = k - f + 1 by omega, List.take_add_one, List.getElem?_drop, show f + (k - f) = k by omega, ht]; rfl
theorem LnAt.skip {ts : List Tz} {f k : Nat} {pre rest : List (Lt ts)} {t : Tz} (h : LnAt ts f k pre rest) (ht : ts[k]? = some t) (h9 : (t.k == 9) = false) : LnAt ts f (k + 1) pre rest := by
  have hlt := (List.getElem?_eq_some_iff.1 ht).1
  refine ⟨Nat.le_succ_of_le h.fk, hlt, h.all, fun u hu => ?_, h.eq⟩
  rw [seg_snoc h.fk ht] at hu
  rcases List.mem_append.1 hu with hu | hu
  · exact h.nl u hu
  · rw [List.mem_singleton] at hu; rw [hu]; exact h9
theorem LnAt.line {ts : List Tz} {f k : Nat} {pre rest : List (Lt ts)} {t : Tz} (h : LnAt ts f k pre rest) (ht : ts[k]? = some t) (h9 : (t.k == 9) = true) :
    ∃ (x : Lt ts) (r : List (Lt ts)), rest = x :: r ∧ x.1.f = f ∧ x.1.l.length = k + 1 - f ∧ LnAt ts (k + 1) (k + 1) (pre ++ [x]) r := by
  have hlt := (List.getElem?_eq_some_iff.1 ht).1
  have hd : ts.drop f = (ts.drop f).take (k - f) ++ t :: ts.drop (k + 1) := by
    have h1 := (List.take_append_drop (k - f) (ts.drop f)).symm
    rw [List.drop_drop, show f + (k - f) = k by have := h.fk; omega] at h1
    rw [List.drop_eq_getElem_cons hlt, (List.getElem?_eq_some_iff.1 ht).2] at h1
    exact h1
  have heq := h.eq
  rw [hd, linesS_cut _ h.nl h9, lnsFrom] at heq
  cases rest with
  | nil => simp at heq
  | cons x r =>
    rw [List.map_cons, List.cons.injEq] at heq
    have hlen : ((ts.drop f).take (k - f) ++ [t]).length = k + 1 - f := by
      have := h.fk
      rw [List.length_append, List.length_take, List.length_drop, List.length_singleton]; omega
    refine ⟨x, r, rfl, by rw [heq.1], by rw [heq.1]; exact hlen, Nat.le_refl _, hlt, by rw [h.all]; simp, (fun u hu => by simp at hu), ?_⟩
    rw [heq.2, hlen, show f + (k + 1 - f) = k + 1 by have := h.fk; omega]
theorem LnAt.tail {ts : List Tz} {f : Nat} {pre rest : List (Lt ts)} (h : LnAt ts f ts.length pre rest) (hf : f < ts.length) :
    ∃ x : Lt ts, rest = [x] ∧ x.1.f = f ∧ x.1.l.length = ts.length - f ∧ lts ts = pre ++ [x] := by
  have hnl := h.nl
  rw [List.take_of_length_le (by rw [List.length_drop]; exact Nat.le_refl _)] at hnl
  have heq := h.eq
  rw [linesS_rest hnl (by intro e; have := congrArg List.length e; rw [List.length_drop] at this; simp at this; omega)] at heq
  rw [lnsFrom, lnsFrom] at heq
  cases rest with
  | nil => simp at heq
  | cons x r =>
    rw [List.map_cons, List.cons.injEq] at heq
    obtain ⟨h1, h2⟩ := heq
    obtain rfl : r = [] := List.map_eq_nil_iff.1 h2
    exact ⟨x, rfl, by rw [h1], by rw [h1]; simp, h.all⟩
theorem LnAt.none {ts : List Tz} {f : Nat} {pre rest : List (Lt ts)} (h : LnAt ts f ts.length pre rest) (hf : ¬ f < ts.length) : lts ts = pre := by
  have heq := h.eq
  rw [List.drop_eq_nil_of_le (by omega)] at heq
  rw [h.all]
  cases rest with
  | nil => simp
  | cons x r => simp [linesS, lnsFrom] at heq

/-- What the caller's rounds know: the things ahead. -/
def LnPm (ts : List Tz) (pre : List (Lt ts)) (x : Lt ts) : Prop := (pre ++ [x]) <+: lts ts
/-- The rows of the lines so far. -/
def rowsP {ts : List Tz} (pre : List (Lt ts)) : List Rz := (pre.map fun x => x.1.l).foldl addLine []
theorem rowsP_snoc {ts : List Tz} (pre : List (Lt ts)) (x : Lt ts) : rowsP (pre ++ [x]) = addLine (rowsP pre) x.1.l := by
  unfold rowsP; rw [List.map_append, List.foldl_append]; rfl
theorem rowsP_all (ts : List Tz) : rowsP (lts ts) = rowsS ts := by
  unfold rowsP rowsS
  rw [show (lts ts).map (fun x => x.1.l) = ((lts ts).map (·.1)).map (·.l) by rw [List.map_map]; rfl, lts_val]
  unfold lnsAll
  rw [lnsFrom_val]
theorem toksN_lines : ∀ (ls : List (List Tz)) (o : List Rz), toksN (ls.foldl addLine o) = toksN o + ls.flatten.length
  | [], o => by simp
  | l :: ls, o => by
    rw [List.foldl_cons, toksN_lines ls, List.flatten_cons, List.length_append]
    unfold addLine
    rw [addRow_toks]
    unfold rowOf
    simp only
    omega
theorem lines_len : ∀ (ls : List (List Tz)) (o : List Rz), (ls.foldl addLine o).length ≤ o.length + ls.length
  | [], o => Nat.le_refl _
  | l :: ls, o => by
    rw [List.foldl_cons]
    refine Nat.le_trans (lines_len ls _) ?_
    have := addRow_len o (rowOf l)
    unfold addLine
    rw [List.length_cons]; omega
/-- The rows so far and the line at hand hold no more tokens than the list. -/
theorem rowsP_fits {ts : List Tz} {pre : List (Lt ts)} {x : Lt ts} (h : LnPm ts pre x) : toksN (rowsP pre) + x.1.l.length ≤ ts.length ∧ (rowsP pre).length < ts.length := by
  obtain ⟨r, hr⟩ := h
  have hf := linesF_flat ts
  rw [show linesS ts = (lts ts).map (fun x => x.1.l) by
    rw [show (lts ts).map (fun x => x.1.l) = ((lts ts).map (·.1)).map (·.l) by rw [List.map_map]; rfl, lts_val]
    unfold lnsAll; rw [lnsFrom_val], ← hr] at hf
  have hl := congrArg List.length hf
  simp only [List.map_append, List.map_cons, List.map_nil, List.flatten_append, List.flatten_cons, List.flatten_nil, List.append_nil, List.length_append] at hl
  have h1 := toksN_lines (pre.map fun x => x.1.l) []
  have h2 := lines_len (pre.map fun x => x.1.l) []
  have h3 : (pre.map fun x => x.1.l).length ≤ (pre.map fun x => x.1.l).flatten.length := by
    have : ∀ (q : List (Lt ts)), (q.map fun x => x.1.l).length ≤ (q.map fun x => x.1.l).flatten.length := by
      intro q
      induction q with
      | nil => exact Nat.le_refl _
      | cons y q ih =>
        have := (ln_in y).1
        rw [List.map_cons, List.flatten_cons, List.length_append, List.length_cons]; omega
    exact this pre
  have h4 := (ln_in x).1
  have h0 : toksN [] = 0 := rfl
  have h00 : ([] : List Rz).length = 0 := rfl
  unfold rowsP
  omega

end Go.Proofs.Ytaodjipnffgihaa

namespace Go.Proofs.Ytaodjipnffgihaa
open Go.RowKit Go.Shelf

attribute [local go_sem] Oper.semAt_some

/-- What a round keeps for the iterator: its box, and all that was there ahead of the call. -/
structure LnKept (Bn B : Nat) (Y W : World) : Prop where
  size : Y.heap.size ≤ W.heap.size
  box : ∀ v, Boxed Y Bn 22 v → Boxed W Bn 22 v
  low : ∀ k, k < B → W.heap[k]? = Y.heap[k]?
structure LnEnv (Bn B : Nat) (v : Value) (W0 W : World) : Prop where
  lt : B ≤ W.heap.size
  box : Boxed W Bn 22 v
  low : ∀ k, k < B → W.heap[k]? = W0.heap[k]?
theorem LnEnv.below {Bn B : Nat} {v : Value} {W0 W W' : World} (h : LnEnv Bn B v W0 W) (hb : Below W.heap.size W W') : LnEnv Bn B v W0 W' :=
  ⟨Nat.le_trans h.lt hb.size, (hb.block Bn h.box.lt).trans h.box, fun k hk => (hb.block k (Nat.lt_of_lt_of_le hk h.lt)).trans (h.low k hk)⟩
theorem LnEnv.kept {Bn B : Nat} {v : Value} {W0 Y W : World} (h : LnEnv Bn B v W0 Y) (hk : LnKept Bn B Y W) : LnEnv Bn B v W0 W :=
  ⟨Nat.le_trans h.lt hk.size, hk.box _ h.box, fun k hk' => (hk.low k hk').trans (h.low k hk')⟩
theorem TzAt.low {B b o : Nat} {W0 W : World} {ts : List Tz} (h : TzAt W0 b o ts) (hb : b < B) (hl : ∀ k, k < B → W.heap[k]? = W0.heap[k]?) : TzAt W b o ts := fun i t ht => by
  have hc : ∀ q, W.cell? ⟨b, q, none⟩ = W0.cell? ⟨b, q, none⟩ := fun q => World.cell?_of_block (a := ⟨b, q, none⟩) (hl b hb)
  rw [hc, hc, hc, hc, hc]
  exact h i t ht

set_option maxHeartbeats 400000 in
theorem linesOf_any (a : Option Addr) (n cap : Nat) (w : World) :
    Calls Try.prog 52 #[.slice a n cap] w fun e w' => e = .returned (.func (.func 69) #[] #[.pointer (some ⟨w.heap.size, 0, none⟩)]) ∧ w' = w.alloc (.cells #[.slice a n cap] 22) := by
  go_enter Try.func52, Try.ntmps52
  go_wp2
  go_ret
  exact ⟨rfl, rfl⟩

def encL {ts : List Tz} (b o cap : Nat) (x : Lt ts) : Array Value := #[.slice (some ⟨b, o + x.1.f * 5, none⟩) x.1.l.length (cap - x.1.f)]

set_option maxRecDepth 100000 in
set_option maxHeartbeats 2000000 in
/-- The iterator: each line in order, as long as a round says 'go on'. -/
theorem lines1_in (n : Nat) (hn : 1 ≤ n) (ts : List Tz) (m cap : Nat) (a : Option Addr) (b o : Nat) (hm : ts.length = m) (hmc : m ≤ cap) (hm2 : m * 48 ≤ 140737488355328) (W0 : World) (B : Nat) (ha : 0 < m → a = some ⟨b, o, none⟩ ∧ b < B ∧ TzAt W0 b o ts)
    (l Bn : Nat) (J Jx : List (Lt ts) → World → Prop) (B0 : Nat) (hJa : AbidesFrom B0 J)
    (hY : ∀ pre (x : Lt ts) W, J pre W → LnPm ts pre x → YieldAt Fence.wide (n - 1) Try.prog l (encL b o cap x) W fun e W' =>
      (e = .returned (.bool true) ∧ J (pre ++ [x]) W' ∧ LnKept Bn B W W') ∨ (e = .returned (.bool false) ∧ Jx (pre ++ [x]) W'))
    (W : World) (hE : LnEnv Bn B (.slice a m cap) W0 W) (h0 : J [] W) :
    CallsIn Fence.wide n Try.prog 69 #[.func (.yield l) #[] #[], .pointer (some ⟨Bn, 0, none⟩)] W fun e W' => (∃ v, e = .returned v) ∧
      ((∃ ys, ys = lts ts ∧ J ys W') ∨ (∃ pre, pre <+: lts ts ∧ Jx pre W')) := by
  have HM := Lib.hid hm
  have HA0 := Lib.hid ha
  clear ha hm
  refine callsIn_of_wp Try.func69 rfl trivial ?_ rfl
  simp only [Try.ntmps69, List.size_toArray, List.length_cons, List.length_nil, Nat.reduceAdd, Nat.reduceSub, Array.replicate_succ, Array.replicate_zero, List.push_toArray, List.append_toArray, List.nil_append, List.cons_append]
  have hc0 := hE.box.cell
  gi_wp2
  clear hc0
  gi_loopw [3, 8] (fun fr i wr => ∃ (pre rest : List (Lt ts)) (f k : Nat), fr = .int .i64 f ∧ i = .int .i64 k ∧ Hid (LnAt ts f k pre rest) ∧ f ≤ k ∧ k ≤ m ∧ J pre wr ∧ LnEnv Bn B (.slice a m cap) W0 wr)
    (fun _ i _ => m - (intOf i).toNat)
  case atStart =>
    exact ⟨[], lts ts, 0, 0, rfl, rfl, Lib.hid (LnAt.start ts), Nat.le_refl _, Nat.zero_le _, h0, hE⟩
  case round =>
    obtain ⟨pre, rest, f, k, rfl, rfl, HA, hfk, hkm, hJs, hEr⟩ := hrel
    have hc := hEr.box.cell
    by_cases hlt : k < m
    · obtain ⟨t, ht⟩ : ∃ t, ts[k]? = some t := ⟨_, List.getElem?_eq_getElem (by rw [HM.out]; exact hlt)⟩
      obtain ⟨rfl, hbB, hz⟩ := HA0.out (by omega)
      obtain ⟨c0, c1, c2, c3, c4⟩ := (hz.low hbB hEr.low) k t ht
      have j1 : (k : Int) < (m : Int) := by omega
      have j0 : (0 : Int) ≤ (k : Int) := by omega
      have hbl := below1 wr (.cells #[.int .i64 t.k, .string t.tx, .int .i64 t.a, .int .i64 t.e, .bool t.sp] 49)
      cases h9 : (t.k == 9)
      · have HA2 := Lib.hid (HA.out.skip ht h9)
        have k9 : (t.k != 9) = true := by simp only [bne, h9]; rfl
        clear hz ht HA
        gi_wp2
        go_roundw
        case rel => exact ⟨pre, rest, f, k + 1, rfl, by go_num, HA2, by omega, by omega, abides_below hJa hJs hbl, hEr.below hbl⟩
        case measure => simp [intOf]; omega
      · obtain ⟨x, r, hrest, hxf, hxl, hA2⟩ := HA.out.line ht h9
        have hPm : LnPm ts pre x := ⟨r, by rw [HA.out.all, hrest]; simp⟩
        have HA2 := Lib.hid hA2
        have k9 : (t.k != 9) = false := by simp only [bne, h9]; rfl
        have hE1 := hEr.below hbl
        have hc1 := hE1.box.cell
        obtain ⟨fn, tmps, assign, body, hy, hR⟩ := hY pre x _ (abides_below hJa hJs hbl) hPm
        have hcell : encL b o cap x = #[.slice (some ⟨b, o + f * 5, none⟩) (k + 1 - f) (cap - f)] := by unfold encL; rw [hxf, hxl]
        rw [hcell] at hy
        have i0 : (0 : Int) ≤ (f : Int) := by omega
        have i1 : (f : Int) ≤ (k : Int) + 1 := by omega
        have i2 : (k : Int) + 1 ≤ (cap : Int) := by omega
        clear hz ht HA hcell hxf hxl hrest hA2 hPm
        gi_wp2_with fail
        refine hR.mono ?_
        rintro e W3 (⟨rfl, hJ3, hk3⟩ | ⟨rfl, hJx3⟩)
        · have hE3 := hE1.kept hk3
          have HE3 := Lib.hid hE3
          clear hE3 hk3 hc hc1 hE1
          gi_wp2
          go_roundw
          case rel => exact ⟨pre ++ [x], r, k + 1, k + 1, by go_num, by go_num, HA2, Nat.le_refl _, by omega, hJ3, HE3.out⟩
          case measure => simp [intOf]; omega
        · gi_wp2
          refine bodyPost_ret (results_none rfl _ _ _) rfl ?_
          exact ⟨⟨_, rfl⟩, .inr ⟨pre ++ [x], ⟨r, by rw [HA2.out.all]⟩, hJx3⟩⟩
    · obtain rfl : k = m := by omega
      by_cases hf : f < k
      · have hAk : LnAt ts f ts.length pre rest := by have := HA.out; rw [← HM.out] at this; exact this
        obtain ⟨x, hrest, hxf, hxl, hall⟩ := hAk.tail (by rw [HM.out]; exact hf)
        obtain ⟨rfl, hbB, -⟩ := HA0.out (by omega)
        have hPm : LnPm ts pre x := by unfold LnPm; rw [hall]; exact List.prefix_rfl
        have HALL := Lib.hid hall
        obtain ⟨fn, tmps, assign, body, hy, hR⟩ := hY pre x _ hJs hPm
        have hcell : encL b o cap x = #[.slice (some ⟨b, o + f * 5, none⟩) (k - f) (cap - f)] := by unfold encL; rw [hxf, hxl, HM.out]
        rw [hcell] at hy
        have j1 : ¬ (k : Int) < (k : Int) := by omega
        have i0 : (0 : Int) ≤ (f : Int) := by omega
        have i1 : (f : Int) < (k : Int) := by omega
        have i2 : (f : Int) ≤ (k : Int) := by omega
        have i3 : ¬ cap = f := by omega
        clear hAk hcell hxf hxl hrest hall hPm HA
        gi_wp2_with fail
        refine hR.mono ?_
        rintro e W3 (⟨rfl, hJ3, -⟩ | ⟨rfl, hJx3⟩)
        · gi_wp2
          go_end0
          exact ⟨⟨_, rfl⟩, .inl ⟨_, HALL.out.symm, hJ3⟩⟩
        · gi_wp2
          go_end0
          exact ⟨⟨_, rfl⟩, .inr ⟨_, (by rw [HALL.out]; exact List.prefix_rfl), hJx3⟩⟩
      · have hall : lts ts = pre := by
          have := HA.out
          rw [← HM.out] at this
          exact this.none (by rw [HM.out]; omega)
        have HALL := Lib.hid hall
        have j1 : ¬ (k : Int) < (k : Int) := by omega
        have j2 : ¬ (f : Int) < (k : Int) := by omega
        clear hall HA
        gi_wp2
        go_end0
        exact ⟨⟨_, rfl⟩, .inl (by rw [HALL.out]; exact hJs)⟩

end Go.Proofs.Ytaodjipnffgihaa

namespace Go.Proofs.Ytaodjipnffgihaa
open Go.RowKit Go.Shelf

set_option maxRecDepth 100000 in
set_option maxHeartbeats 2000000 in
theorem cloneToks_any (ts : List Tz) (n cap : Nat) (ad : Addr) (w : World) (hn : ts.length = n) (hn2 : n * 48 ≤ 140737488355328) (hT : 0 < n → ∃ b o, ad = ⟨b, o, none⟩ ∧ b < w.heap.size ∧ TzAt w b o ts) :
    Calls Try.prog 84 #[.slice (some ad) n cap] w fun e w' => (∃ v, e = .returned v ∧ TokOwn w' w.heap.size v ts) ∧ Below w.heap.size w w' := by
  obtain ⟨i0, hi, hz0, hz1, hz2⟩ := info_parts infoTz
  have hlen : (tzCells ts).length = n * 5 := by rw [tzCells_len, hn]
  have hone := Lib.hid (tzCells_one ts)
  have hnews : ∀ o : Obj, ∀ j u, (tzCells ts)[j]? = some u → (w.alloc o).cell? (ad.add j) = some u := by
    intro o j u hj
    have hlt := (List.getElem?_eq_some_iff.1 hj).1
    obtain ⟨b, q, rfl, hb, hr⟩ := hT (by omega)
    exact tzCells_at (hr.below (below1 w o) hb) j u hj
  have HNW := Lib.hid hnews
  have HLN := Lib.hid hlen
  have HN := Lib.hid hn
  clear hn hT hnews hlen
  have he : ∀ w : World, (binOp .eql 22 (.slice (some ad) n cap) (.slice none 0 0)).run Try.prog w = .ok (.bool false) w := fun _ => rfl
  go_enter Try.func84, Try.ntmps84
  go_wp2_with (at_builtin; refine wpList_append_own _ rfl _ _ 22 rfl w.heap.size 49 i0 (.agg #[.int .i64 0, .string ⟨#[]⟩, .int .i64 0, .int .i64 0, .bool false]) 5 48 Try.underlying22 hi hz0 hz1 hz2 rfl (by decide) _ _ _ rfl (World.ownsRow_lit w #[] 0 (Nat.le_refl _) (Nat.zero_le _) rfl) ad n cap (tzCells ts) rfl HLN.out (HNW.out _) hone.out (by unfold maxLen; omega) (by omega) (by simp) ?_; intro v' w1 hown hgrow hn3; clear hn3; have hb1 := ((Below.refl w.heap.size w).alloc (Nat.le_refl _) (.cells #[] 49)).grown hgrow (by simp) (fun j e => ((World.ownsRow_lit (base := w.heap.size) (e := 49) (size := 5) w #[] 0 (Nat.le_refl _) (Nat.zero_le _) rfl).lt j e).1))
  go_ret
  exact ⟨⟨v', rfl, by unfold TokOwn; rw [HN.out]; exact row_zero hown⟩, hb1⟩

theorem set_self {xs : List Value} {j : Nat} {u : Value} (h : xs[j]? = some u) : xs.set j u = xs := by
  obtain ⟨hlt, he⟩ := List.getElem?_eq_some_iff.1 h
  subst he
  exact List.set_getElem_self hlt
/-- A text of a token is stored anew. -/
theorem tok_restored {W : World} {B g n cap k : Nat} {ts : List Tz} {t : Tz} (hn : ts.length = n) (h : W.ownsRow B 49 5 (.slice (some ⟨g, 0, none⟩) n cap) n (tzCells ts)) (ht : ts[k]? = some t) :
    (W.setCell ⟨g, k * 5 + 1, none⟩ (.string t.tx)).ownsRow B 49 5 (.slice (some ⟨g, 0, none⟩) n cap) n (tzCells ts) := by
  obtain ⟨h1, _⟩ := h.stored (k * 5 + 1) (.string t.tx)
  rw [set_self (tzCells_get ht 1 (by decide))] at h1
  exact h1

set_option maxRecDepth 100000 in
set_option maxHeartbeats 4000000 in
theorem copyOf_any (ts : List Tz) (n cap : Nat) (ad : Addr) (w : World) (hn : ts.length = n) (hn0 : 0 < n) (hn2 : n * 48 ≤ 140737488355328) (hx : ∀ t ∈ ts, t.tx.size ≤ 281474976710656) (hT : 0 < n → ∃ b o, ad = ⟨b, o, none⟩ ∧ b < w.heap.size ∧ TzAt w b o ts) :
    Calls Try.prog 70 #[.slice (some ad) n cap] w fun e w' => (∃ g cap', e = .returned (.slice (some ⟨g, 0, none⟩) n cap') ∧ w'.ownsRow w.heap.size 49 5 (.slice (some ⟨g, 0, none⟩) n cap') n (tzCells ts)) ∧ Below w.heap.size w w' := by
  have HC := cloneToks_any ts n cap ad w hn hn2 hT
  have HN := Lib.hid hn
  have HX := Lib.hid hx
  clear hn hT hx
  go_enter Try.func70, Try.ntmps70
  go_wp2_with fail
  refine HC.mono ?_
  rintro e w1 ⟨⟨v, rfl, ho⟩, hb1⟩
  have ho1 : w1.ownsRow w.heap.size 49 5 v n (tzCells ts) := by unfold TokOwn at ho; rw [HN.out] at ho; exact ho
  clear ho HC
  obtain ⟨a1, cap1, rfl⟩ := row_shape ho1
  obtain ⟨g, rfl, hg, hc⟩ := row_pos hn0 ho1
  have hgB := (ho1.lt g rfl).1
  clear hc
  go_wp2
  go_loopw [8] (fun i wx => ∃ k : Nat, k ≤ n ∧ i = .int .i64 k ∧ wx.ownsRow w.heap.size 49 5 (.slice (some ⟨g, 0, none⟩) n cap1) n (tzCells ts) ∧ Below w.heap.size w wx) (fun i _ => n - (intOf i).toNat)
  case atStart => exact ⟨0, Nat.zero_le _, rfl, ho1, hb1⟩
  case round =>
    obtain ⟨k, hk, rfl, hor, hbx⟩ := hrel
    by_cases hlt : k < n
    · obtain ⟨t, ht⟩ : ∃ t, ts[k]? = some t := ⟨_, List.getElem?_eq_getElem (by rw [HN.out]; exact hlt)⟩
      have hX := HX.out t (List.mem_of_getElem? ht)
      have c1 : wr.cell? ⟨g, k * 5 + 1, none⟩ = some (.string t.tx) := by
        obtain ⟨g', h9, _, hc9⟩ := row_pos hn0 hor
        cases h9
        exact hc9 _ _ (tzCells_get ht 1 (by decide))
      have HC := fun w' => clone_any t.tx w' hX
      have HTT := Lib.hid ht
      clear ht
      have j1 : (k : Int) < (n : Int) := by omega
      have j0 : (0 : Int) ≤ (k : Int) := by omega
      go_wp2_with (go_at_call 28; refine (HC _).mono ?_; rintro e w2 ⟨rfl, hb2⟩; have hor2 := row_below hor hb2; have hB2 := hbx.trans (hb2.mono hbx.size); have fz : w2.frozen? ⟨g, k * 5 + 1, none⟩ = false := hor2.frozenAt (k * 5 + 1); have c2 : w2.cell? ⟨g, k * 5 + 1, none⟩ = some (.string t.tx) := (hb2.cell (p := ⟨g, k * 5 + 1, none⟩) (hor.lt g rfl).2).trans c1; have hst := tok_restored HN.out hor2 HTT.out; have hB3 := hB2.setCell (p := ⟨g, k * 5 + 1, none⟩) hgB (.string t.tx))
      refine ⟨⟨k + 1, by omega, by go_num, hst, hB3⟩, ?_⟩
      simp [intOf]; omega
    · go_wp2
      go_ret
      exact ⟨⟨g, cap1, rfl, hor⟩, hbx⟩

end Go.Proofs.Ytaodjipnffgihaa

namespace Go.Proofs.Ytaodjipnffgihaa
open Go.RowKit Go.Shelf

set_option maxRecDepth 100000 in
set_option maxHeartbeats 4000000 in
/-- scan.Bare of a list that lies anywhere in a block. -/
theorem bare_off (ts : List Tz) (n cap : Nat) (a : Option Addr) (w : World) (hn : ts.length = n) (hn2 : n * 48 ≤ 140737488355328) (ht : ∀ t ∈ ts, t.tx.size ≤ 281474976710656)
    (hT : 0 < n → ∃ b o, a = some ⟨b, o, none⟩ ∧ b < w.heap.size ∧ TzAt w b o ts) :
    Calls Try.prog 54 #[.slice a n cap] w fun e w' => (∃ v, e = .returned v ∧ w'.ownsRow w.heap.size 49 5 v (bareS ts).1.length (tzCells (bareS ts).1)) ∧ Below w.heap.size w w' := by
  obtain ⟨i0, hi, hz0, hz1, hz2⟩ := info_parts infoTz
  have HN := Lib.hid hn
  have HT := Lib.hid hT
  have HX := Lib.hid ht
  clear hn hT ht
  go_enter Try.func54, Try.ntmps54
  go_wp2
  go_loopg [3, 4, 6, 9] n (fun g v lo _ i wx => ∃ (k : Nat) (acc : List Tz) (ah : Bool), k ≤ n ∧ i = .int .i64 k ∧ g = n - k ∧ lo = .bool ah ∧ Hid (bareS (ts.take k) = (acc, ah)) ∧ wx.ownsRow w.heap.size 49 5 v acc.length (tzCells acc) ∧ Below w.heap.size w wx)
  case atStart => exact ⟨0, [], false, Nat.zero_le _, rfl, rfl, rfl, Lib.hid rfl, World.ownsRow_nil _ _ _ _, Below.refl _ _⟩
  case round =>
    obtain ⟨k, acc, ah, hk, rfl, rfl, rfl, HB, hrow, hbx⟩ := hrel
    by_cases hlt : k < n
    · obtain ⟨t, ht⟩ : ∃ t, ts[k]? = some t := ⟨_, List.getElem?_eq_getElem (by rw [HN.out]; exact hlt)⟩
      obtain ⟨g, og, rfl, hg1, hr⟩ := HT.out (by omega)
      obtain ⟨c0, c1, c2, c3, c4⟩ := (hr.below hbx hg1) k t ht
      have hX := HX.out t (List.mem_of_getElem? ht)
      have hB2 := bareS_snoc ht
      rw [HB.out] at hB2
      have HB2 := Lib.hid hB2
      have hal : acc.length ≤ k := by
        have := bareS_len (ts.take k)
        rw [HB.out, List.length_take] at this
        exact Nat.le_trans this (Nat.min_le_left _ _)
      have hne := row_ne hrow
      have hbs := hbx.size
      clear hr ht hB2
      have j1 : (k : Int) < (n : Int) := by omega
      have j0 : (0 : Int) ≤ (k : Int) := by omega
      obtain ⟨tk, tt, ta, te, tsp⟩ := t
      simp only at c0 c1 c2 c3 c4 hX
      cases h8 : (tk == 8)
      · cases h9 : (tk == 9)
        · have hst : bareStep (acc, ah) ⟨tk, tt, ta, te, tsp⟩ = (acc ++ [⟨tk, tt, ta, te, tsp || ah⟩], false) := by
            unfold bareStep outK; simp only [h8, h9]; rfl
          have HS := Lib.hid hst
          have HC := fun w' => clone_any tt w' hX
          clear hst
          cases tsp
          · have HE : Hid (bareS (ts.take (k + 1)) = (acc ++ [⟨tk, tt, ta, te, ah⟩], false)) := Lib.hid (HB2.out.trans HS.out)
            clear HB2 HS
            go_wp2_with (first
              | (go_at_call 28; refine (HC _).mono ?_; rintro e w2 ⟨rfl, hb2⟩; obtain ⟨⟨d0, d1, d2, d3, d4, f1, f4⟩, hr4, hs2⟩ := bare_call hrow hbx hb2; have HR4 := Lib.hid (hr4 (.string tt) (.bool ah)); clear hr4)
              | (at_builtin; refine wpList_append_own _ rfl _ _ 22 rfl w.heap.size 49 i0 (.agg #[.int .i64 0, .string ⟨#[]⟩, .int .i64 0, .int .i64 0, .bool false]) 5 48 Try.underlying22 hi hz0 hz1 hz2 rfl (by decide) _ _ _ rfl (HR4.out.1.alloc _) ⟨w2.heap.size, 0, none⟩ 1 1 (tzCell ⟨tk, tt, ta, te, ah⟩) rfl rfl (cell5_behind _ _ _ _ _ _ _ _ _ _) (by simp [Value.oneCell', tzCell]) (by unfold maxLen; omega) (by omega) (by simp [World.setCell]; omega) ?_; intro v' w3 hown hgrow hn3; clear hn3; have hB4 := HR4.out.2; have hL4 := HR4.out.1.lt; have hB5 := (hB4.alloc hB4.size _).grown hgrow (by have := hB4.size; simp; omega) (fun j e => (hL4 j e).1)))
            go_roundg (n - (k + 1))
            case rel =>
              refine ⟨k + 1, _, false, by omega, by go_num, rfl, rfl, HE, ?_, hB5⟩
              rw [List.length_append, tzCells_snoc]
              exact hown
            case measure => omega
          · have HE : Hid (bareS (ts.take (k + 1)) = (acc ++ [⟨tk, tt, ta, te, true⟩], false)) := Lib.hid (HB2.out.trans HS.out)
            clear HB2 HS
            go_wp2_with (first
              | (go_at_call 28; refine (HC _).mono ?_; rintro e w2 ⟨rfl, hb2⟩; obtain ⟨⟨d0, d1, d2, d3, d4, f1, f4⟩, hr4, hs2⟩ := bare_call hrow hbx hb2; have HR4 := Lib.hid (hr4 (.string tt) (.bool true)); clear hr4)
              | (at_builtin; refine wpList_append_own _ rfl _ _ 22 rfl w.heap.size 49 i0 (.agg #[.int .i64 0, .string ⟨#[]⟩, .int .i64 0, .int .i64 0, .bool false]) 5 48 Try.underlying22 hi hz0 hz1 hz2 rfl (by decide) _ _ _ rfl (HR4.out.1.alloc _) ⟨w2.heap.size, 0, none⟩ 1 1 (tzCell ⟨tk, tt, ta, te, true⟩) rfl rfl (cell5_behind _ _ _ _ _ _ _ _ _ _) (by simp [Value.oneCell', tzCell]) (by unfold maxLen; omega) (by omega) (by simp [World.setCell]; omega) ?_; intro v' w3 hown hgrow hn3; clear hn3; have hB4 := HR4.out.2; have hL4 := HR4.out.1.lt; have hB5 := (hB4.alloc hB4.size _).grown hgrow (by have := hB4.size; simp; omega) (fun j e => (hL4 j e).1)))
            go_roundg (n - (k + 1))
            case rel =>
              refine ⟨k + 1, _, false, by omega, by go_num, rfl, rfl, HE, ?_, hB5⟩
              rw [List.length_append, tzCells_snoc]
              exact hown
            case measure => omega
        · have hst : bareStep (acc, ah) ⟨tk, tt, ta, te, tsp⟩ = (acc, true) := by unfold bareStep outK; simp only [h8, h9]; rfl
          rw [hst] at HB2
          clear hst
          go_wp2
          go_roundg (n - (k + 1))
          case rel => exact ⟨k + 1, acc, true, by omega, by go_num, rfl, rfl, HB2, hrow.alloc _, hbx.alloc hbs _⟩
          case measure => omega
      · have hst : bareStep (acc, ah) ⟨tk, tt, ta, te, tsp⟩ = (acc, true) := by unfold bareStep outK; simp only [h8]; rfl
        rw [hst] at HB2
        clear hst
        go_wp2
        go_roundg (n - (k + 1))
        case rel => exact ⟨k + 1, acc, true, by omega, by go_num, rfl, rfl, HB2, hrow.alloc _, hbx.alloc hbs _⟩
        case measure => omega
    · obtain rfl : k = n := by omega
      have HB3 := Lib.hid (show bareS ts = (acc, ah) by rw [← HB.out, List.take_of_length_le (by rw [HN.out]; exact Nat.le_refl _)])
      go_wp2
      go_ret
      rw [HB3.out]
      exact ⟨⟨_, rfl, hrow⟩, hbx⟩

end Go.Proofs.Ytaodjipnffgihaa

namespace Go.Proofs.Ytaodjipnffgihaa
open Go

def noDefer (o : Oper) : Bool := match o.op with | .defer _ => false | _ => true
theorem noDefer_spec {o : Oper} (h : noDefer o = true) : ∀ c, o.op ≠ .defer c := fun c hc => by unfold noDefer at h; rw [hc] at h; cases h

section
variable {P : Program} {ops : Array Oper} {Q : Exit → Act → World → Prop} {md : Region.Mode} {S : World → Prop} {l n : Nat}

theorem operIn_round {o : Oper} {a : Act} {w : World} {K : Act → World → Prop} (hd : noDefer o = true) (h : o.wp P a w K Q) : o.wpIn (Fence.wide.inRound l) n P a w K Q := by
  refine ⟨fun _ _ => trivial, ?_⟩
  rw [Oper.semAt_eq _ _ _ (noDefer_spec hd)]
  unfold Oper.wp at h
  generalize (execOp a.eval o).run P w = r at *
  have hdep : (Fence.wide.inRound l).depth.isSome = true → 1 ≤ n := fun h => by cases h
  cases r with
  | ok x w' =>
    cases x with
    | value v => exact h
    | skip => exact h
    | defer d => exact h
    | enter f args =>
      refine ⟨hdep, CallsIn.inRound l (callsIn_wide.2 ?_)⟩
      exact h
    | row row args =>
      refine ⟨hdep, fun c cs _ => ?_⟩
      obtain ⟨v, w'', hR, hs⟩ := h c cs
      exact ⟨v, w'', hR, stepsIn_wide.2 hs⟩
    | _ => exact h.elim
  | halt x w' => cases x <;> first | exact h | exact h.elim

theorem opIn_round {i : Nat} {a : Act} {w : World} {K : Act → World → Prop} (hd : ops.all noDefer = true) (hL : ¬ LetsOut Q) (h : wpOp P ops Q i K a w) : wpOpIn (Fence.wide.inRound l) n P ops Q i K a w := by
  unfold wpOp at h
  unfold wpOpIn
  split
  · rename_i ho; rw [ho] at h; exact h
  · rename_i o ho
    rw [ho] at h
    have hdo : noDefer o = true := by
      obtain ⟨hlt, he⟩ := Array.getElem?_eq_some_iff.1 ho
      have := Array.all_eq_true.1 hd i hlt
      rw [he] at this; exact this
    simp only at h
    split
    · rename_i hw
      rw [if_pos hw] at h
      exact operIn_round hdo (h.resolve_right fun h2 => hL h2.2)
    · rename_i hw
      rw [if_neg hw] at h
      exact ⟨fun _ _ => trivial, h⟩

theorem anyIn_round (hd : ops.all noDefer = true) (hL : ¬ LetsOut Q) : ∀ (fuel : Nat) (listed : Array Bool) (a : Act) (w : World), wpAny P md ops Q fuel listed a w → wpAnyIn (Fence.wide.inRound l) n P md ops Q fuel listed a w
  | 0, _, _, _, h => h
  | fuel + 1, _, _, _, h => ⟨h.1, fun i hi => opIn_round hd hL (wpOp_mono (fun a' w' h' => anyIn_round hd hL fuel _ a' w' h') (h.2 i hi))⟩

/-- A region that draws its order, in a round, by the moves of 'wpAnyH'. -/
theorem region_round {id : Nat} {a : Act} {w : World} (S : World → Prop) (hm : P.follows .mixedOrders = true) (hd : ops.all noDefer = true) (hL : ¬ LetsOut Q)
    (h : wpAnyH P .any ops Q S ops.size (Array.replicate ops.size false) a w.drew) : (Code.region id ops true).wpIn (Fence.wide.inRound l) n P Q a w :=
  wpIn_region_any hm (anyIn_round hd hL _ _ _ _ (wpAny_of_held _ _ _ _ h))

end
end Go.Proofs.Ytaodjipnffgihaa

namespace Go.Proofs.Ytaodjipnffgihaa
open Go.RowKit Go.Shelf

attribute [local go_sem] Oper.semAt_some

/-- A token with its places in the text. -/
def chAt (cs : List Part) (k : Nat) : Part := cs.getD k ⟨0, 0, 0, false⟩
def srcY (cs : List Part) (y : Yd) : Yd := { y with a := (chAt cs y.a).at', e := (chAt cs (y.e - 1)).at' + (chAt cs (y.e - 1)).n }
/-- The logical text of a text, as bytes. -/
def logB (s : ByteArray) : ByteArray := ⟨(logicalOf s.data.toList).toArray⟩
theorem logB_list (s : ByteArray) : (logB s).data.toList = logicalOf s.data.toList := by simp [logB]
def scanErr (s : ByteArray) : Int := if checkN s.data.toList = 0 then ((toks (logicalOf s.data.toList) 0 0).2 : Int) else checkN s.data.toList
def scanOf (s : ByteArray) : List Yd := if scanErr s = 0 then (toksY (logB s)).map (srcY (charsOf s.data.toList)) else []

theorem r2c {v : Value} {a c : Int} (h : a = c) : Ending.returned (.tuple #[v, .int .i64 a]) = .returned (.tuple #[v, .int .i64 c]) := by rw [h]

/-- What Scan hands back lies in its two result variables. -/
theorem results_scan (tmps : Array Value) (A B : Nat) (v u : Value) (W : World) (h2 : tmps[2]?.getD undef = .pointer (some ⟨A, 0, none⟩)) (h3 : tmps[3]?.getD undef = .pointer (some ⟨B, 0, none⟩))
    (c2 : W.cell? ⟨A, 0, none⟩ = some v) (c3 : W.cell? ⟨B, 0, none⟩ = some u) : (results Try.f20 tmps).run Try.prog W = .ok (.tuple #[v, u]) W := by
  simp [results, Try.results20, go_sem, h2, h3, c2, c3]

theorem set2_cells {W : World} {A B : Nat} {t u : TypeId} {a b : Value} (hA : Boxed W A t a) (hB : Boxed W B u b) (hne : A ≠ B) (x y : Value) :
    Boxed ((W.setCell ⟨A, 0, none⟩ x).setCell ⟨B, 0, none⟩ y) A t x ∧ Boxed ((W.setCell ⟨A, 0, none⟩ x).setCell ⟨B, 0, none⟩ y) B u y :=
  ⟨(hA.set x).other hne y, (hB.other (Ne.symm hne) x).set y⟩

set_option maxRecDepth 100000 in
set_option maxHeartbeats 1000000 in
theorem scan_bad (s : ByteArray) (w : World) (hs : s.size ≤ maxLen) (n : Int) (hn : checkN s.data.toList = n) (h3 : n = 3 ∨ n = 10) :
    Calls Try.prog 20 #[.string s] w fun e w' => e = .returned (.tuple #[.slice none 0 0, .int .i64 n]) ∧ Below w.heap.size w w' := by
  have HN := Lib.hid hn
  clear hn
  rcases h3 with rfl | rfl
  all_goals
    go_enter Try.func20, Try.ntmps20
    go_wp2_with fail
    refine (logical_any s _ hs).mono ?_
    rintro e w1 ⟨rfl, hb1⟩
    rw [HN.out]
    have hz : w.heap.size + 2 ≤ w1.heap.size := by have := hb1.size; simpa using this
    have c2 : Boxed w1 w.heap.size 22 (.slice none 0 0) := (hb1.block w.heap.size (by simp; omega)).trans (((Boxed.new w 22 (.slice none 0 0)).alloc _))
    have c3 : Boxed w1 (w.heap.size + 1) 27 (.int .i64 0) := (hb1.block (w.heap.size + 1) (by simp)).trans (by have := Boxed.new (w.alloc (.cells #[.slice none 0 0] 22)) 27 (.int .i64 0); rw [World.size_alloc] at this; exact this)
    have d2 := c2.cell
    have d3 := c3.cell
    have f2 := c2.frozen
    have f3 := c3.frozen
    go_wp2
    obtain ⟨e2, e3⟩ := set2_cells c2 c3 (by omega) (.slice none 0 0) (.int .i64 _)
    refine bodyPost_ret (results_scan _ w.heap.size (w.heap.size + 1) _ _ _ rfl rfl e2.cell e3.cell) rfl ?_
    refine ⟨rfl, ?_⟩
    have hB : Below w.heap.size w w1 := (below2 w _ _).trans (hb1.mono (by simp; omega))
    exact (hB.setCell (p := ⟨w.heap.size, 0, none⟩) (Nat.le_refl _) _).setCell (p := ⟨w.heap.size + 1, 0, none⟩) (by simp) _

theorem charsOf_len {l : List UInt8} : (logicalOf l).length = (charsOf l).length := by
  unfold logicalOf charsOf
  split
  · simp [chB]
  · rfl

theorem logB_size (s : ByteArray) : (logB s).size = (charsOf s.data.toList).length := by
  rw [← size_list, logB_list, charsOf_len]
theorem logical_L (s : ByteArray) (w : World) (hs : s.size ≤ maxLen) (hok : checkN s.data.toList = 0) :
    Calls Try.prog 37 #[.string s] w fun e w' => e = .returned (.tuple #[.string (logB s), .int .i64 0]) ∧ Below w.heap.size w w' := by
  have := logical_any s w hs
  rw [hok] at this
  exact this
theorem chars_L (s : ByteArray) (w : World) (hs : s.size ≤ maxLen) (hok : checkN s.data.toList = 0) :
    Calls Try.prog 38 #[.string s] w fun e w' => (∃ a cap, e = .returned (.tuple #[.slice a (charsOf s.data.toList).length cap, .int .i64 0]) ∧ w'.ownsRow w.heap.size 77 3 (.slice a (charsOf s.data.toList).length cap) (charsOf s.data.toList).length (charCells (charsOf s.data.toList))) ∧ Below w.heap.size w w' := by
  have := chars_any s w hs
  rw [hok] at this
  refine this.mono ?_
  rintro e w' ⟨⟨v, rfl, hr⟩, hb⟩
  obtain ⟨a, cap, rfl⟩ := row_shape hr
  exact ⟨⟨a, cap, rfl, hr⟩, hb⟩

theorem yd_in {L : ByteArray} (x : Yt L) (h : x.1.er = 0) : x.1.a < x.1.e ∧ x.1.e ≤ L.size := by
  obtain ⟨x, hm⟩ := x
  simp only at h ⊢
  rw [ydAll_eq] at hm
  rcases List.mem_append.1 hm with h1 | h1
  · obtain ⟨t, ht, he⟩ := List.mem_map.1 h1
    have hw := toks_within (l := L.data.toList) _ 0 0 (Nat.le_refl _) (Nat.zero_le _) t ht
    rw [← he]
    exact ⟨hw.2.1, hw.2.2.1⟩
  · split at h1
    · simp at h1
    · rename_i h2
      have : x = errY (toks L.data.toList 0 0).2 := by simpa using h1
      rw [this] at h
      exact absurd h h2
/-- The tokens that have been handed over, with their places in the text. -/
def srcP {L : ByteArray} (cs : List Part) (pre : List (Yt L)) : List Yd := (ydP pre).map (srcY cs)
theorem srcP_snoc {L : ByteArray} (cs : List Part) (pre : List (Yt L)) (x : Yt L) : ydCells (srcP cs (pre ++ [x])) = ydCells (srcP cs pre) ++ ydCell (srcY cs x.1) := by
  unfold srcP
  rw [ydP_snoc, List.map_append, List.map_singleton, ydCells_snoc]
theorem charCells_at {ps : List Part} {k : Nat} {p : Part} (h : ps[k]? = some p) (j : Nat) (hj : j < 3) : (charCells ps)[3 * k + j]? = (charCell p)[j]? := by
  induction ps generalizing k with
  | nil => simp at h
  | cons q ps ih =>
    have hc : charCells (q :: ps) = charCell q ++ charCells ps := by simp [charCells]
    cases k with
    | zero =>
      simp only [List.getElem?_cons_zero, Option.some.injEq] at h
      subst h
      rw [hc, List.getElem?_append_left (by simp [charCell]; omega)]
      simp
    | succ k =>
      simp only [List.getElem?_cons_succ] at h
      rw [hc, List.getElem?_append_right (by simp [charCell]; omega)]
      have : 3 * (k + 1) + j - (charCell q).length = 3 * k + j := by simp [charCell]; omega
      rw [this]
      exact ih h
theorem chAt_get {cs : List Part} {k : Nat} (h : k < cs.length) : cs[k]? = some (chAt cs k) := by
  unfold chAt
  rw [List.getD_eq_getElem?_getD, List.getElem?_eq_getElem h]; rfl
theorem charsOf_le (l : List UInt8) : (charsOf l).length ≤ l.length := by
  unfold charsOf
  split
  · have h1 := chs_length (parts l)
    have h2 := partsFrom_length (l := l) _ 0 rfl
    unfold parts at h1 ⊢
    omega
  · simp
theorem charsOf_bound {l : List UInt8} (hl : l.length ≤ 65536) : ∀ p ∈ charsOf l, p.at' + p.n ≤ 65536 := by
  intro p hp
  unfold charsOf at hp
  split at hp
  · exact partsFrom_bound hl 0 p ((List.mem_filter.1 hp).1)
  · simp at hp
/-- The three cells of a character of a row. -/
theorem char_cells {w W : World} {g : Nat} {cs : List Part} {k : Nat} (hk : k < cs.length) (hc : ∀ j u, (charCells cs)[j]? = some u → w.cell? ⟨g, j, none⟩ = some u) (hg : ∀ o, W.cell? ⟨g, o, none⟩ = w.cell? ⟨g, o, none⟩) :
    W.cell? ⟨g, k * 3, none⟩ = some (.int .u8 (chAt cs k).b.toNat) ∧ W.cell? ⟨g, k * 3 + 1, none⟩ = some (.int .i64 (chAt cs k).at') ∧ W.cell? ⟨g, k * 3 + 2, none⟩ = some (.int .i64 (chAt cs k).n) := by
  have h := chAt_get hk
  rw [Nat.mul_comm k 3]
  rw [hg, hg, hg]
  exact ⟨hc _ _ (charCells_at h 0 (by decide)), hc _ _ (charCells_at h 1 (by decide)), hc _ _ (charCells_at h 2 (by decide))⟩
/-- An operation that only reads, taken ahead of the others; the slot that it writes is told. -/
theorem take_at {P : Program} {md : Region.Mode} {ops : Array Oper} {Q : Exit → Act → World → Prop} {S : World → Prop} {i d : Nat} {oi : Oper} {v : Value} {fuel : Nat} {listed : Array Bool} {tm : Array Value} {df : List Deferred} {w : World} (hi : ops[i]? = some oi) (hd : oi.dst = some d)
    (hs : Region.noSelect ops = true) (hf : Region.free md ops listed i = true) (hr : (Region.ready md ops listed).contains i = true)
    (hQ : ∀ c a w, Q (.panic c) (a.put oi.dst v) w → Q (.panic c) a w) (hy : YieldsIf P ops S oi v { tmps := tm, defers := df }) (hS : S w)
    (h : wpAnyH P md ops Q S fuel (listed.setIfInBounds i true) { tmps := tm.setIfInBounds d v, defers := df } w) : wpAnyH P md ops Q S (fuel + 1) listed { tmps := tm, defers := df } w := by
  refine wpAnyH_take hi hs hf hr hQ hy hS ?_
  rw [hd]
  exact h

def erAll {L : ByteArray} (pre : List (Yt L)) : Prop := ∀ p ∈ pre, p.1.er = 0
theorem erAll_snoc {L : ByteArray} {pre : List (Yt L)} {x : Yt L} (h : erAll pre) (hx : x.1.er = 0) : erAll (pre ++ [x]) := by
  intro p hp
  rcases List.mem_append.1 hp with h' | h'
  · exact h p h'
  · obtain rfl : p = x := by simpa using h'
    exact hx
def ErrF {L : ByteArray} (n : Nat) (pre : List (Yt L)) : Prop := ∃ q x, pre = q ++ [x] ∧ x.1.er ≠ 0 ∧ erAll q ∧ n = x.1.er

theorem scanErr_ok {s : ByteArray} (h : checkN s.data.toList = 0) : scanErr s = ((toks (logB s).data.toList 0 0).2 : Int) := by
  unfold scanErr
  rw [if_pos h, logB_list]
theorem row_base {w : World} {b b' n : Nat} {e : TypeId} {size : Nat} {v : Value} {xs : List Value} (hb : b' ≤ b) (h : w.ownsRow b e size v n xs) : w.ownsRow b' e size v n xs := by
  refine ⟨h.1, ?_⟩
  rcases h.2 with h1 | ⟨g, cap, cur, h1, h2, h3⟩
  · exact .inl h1
  · exact .inr ⟨g, cap, cur, h1, Nat.le_trans hb h2, h3⟩

set_option maxRecDepth 100000 in
set_option maxHeartbeats 4000000 in
theorem scan_ok (s : ByteArray) (w : World) (hs : s.size ≤ maxLen) (hle : s.size ≤ 65536) (hok : checkN s.data.toList = 0) (hL : LibVar w) :
    Calls Try.prog 20 #[.string s] w fun e w' => (∃ v, e = .returned (.tuple #[v, .int .i64 (scanErr s)]) ∧ w'.ownsRow w.heap.size 49 5 v (scanOf s).length (ydCells (scanOf s))) ∧ Below w.heap.size w w' := by
  obtain ⟨i0, hi, hz0, hz1, hz2⟩ := info_parts infoTok
  have CL := fun w => logical_L s w hs hok
  have CC := fun w => chars_L s w hs hok
  have HOK := Lib.hid hok
  have hLs := logB_size s
  have hcle := charsOf_le s.data.toList
  have hcb := charsOf_bound (l := s.data.toList) hle
  rw [size_list] at hcle
  clear hok
  obtain ⟨cs, hcs⟩ : ∃ cs, charsOf s.data.toList = cs := ⟨_, rfl⟩
  obtain ⟨L, hLL⟩ : ∃ L, logB s = L := ⟨_, rfl⟩
  rw [hLL] at CL
  rw [hcs] at CC
  rw [hLL, hcs] at hLs
  rw [hcs] at hcle hcb
  have HCS := Lib.hid hcs
  have HLL := Lib.hid hLL
  clear hcs hLL
  refine (callsIn_wide (n := 20)).1 ?_
  refine callsIn_of_wp_marks Try.func20 rfl trivial ?_ rfl
  simp only [Try.ntmps20, List.size_toArray, List.length_cons, List.length_nil, Nat.reduceAdd, Nat.reduceSub, Array.replicate_succ, Array.replicate_zero, List.push_toArray, List.append_toArray, List.nil_append, List.cons_append]
  gi_wp2
  refine ⟨trivial, (callsIn_wide.2 (CL _)).mono ?_⟩
  rintro e w1 ⟨rfl, hb1⟩
  gi_wp2
  refine ⟨trivial, (callsIn_wide.2 (CC _)).mono ?_⟩
  rintro e w2 ⟨⟨ca, ccap, rfl, hcr⟩, hb2⟩
  gi_wp2
  refine ⟨trivial, (callsIn_wide.2 (tokens_any _ _)).mono ?_⟩
  rintro e w' ⟨rfl, rfl⟩
  gi_wp2
  have hlen := yts_len L
  have hG := libVar_lt hL
  have hsz1 : w.heap.size + 2 ≤ w1.heap.size := by have := hb1.size; simpa using this
  have hsz2 := hb2.size
  have c2 : Boxed w2 w.heap.size 22 (.slice none 0 0) := (hb2.block _ (by omega)).trans ((hb1.block w.heap.size (by simp; omega)).trans (((Boxed.new w 22 (.slice none 0 0)).alloc _)))
  have c3 : Boxed w2 (w.heap.size + 1) 27 (.int .i64 0) := (hb2.block _ (by omega)).trans ((hb1.block (w.heap.size + 1) (by simp)).trans (by have := Boxed.new (w.alloc (.cells #[.slice none 0 0] 22)) 27 (.int .i64 0); rw [World.size_alloc] at this; exact this))
  have hBw2 : Below w.heap.size w w2 := ((below2 w _ _).trans (hb1.mono (by simp; omega))).trans (hb2.mono (by omega))
  have hL2 := libVar_below hBw2 hL
  have bC := ((Boxed.new w2 70 (.slice ca cs.length ccap)).alloc (.cells #[.slice none 0 0] 22)).alloc (.cells #[.string L] 9)
  have bL := (Boxed.new (w2.alloc (.cells #[.slice ca cs.length ccap] 70)) 22 (.slice none 0 0)).alloc (.cells #[.string L] 9)
  have bN := Boxed.new ((w2.alloc (.cells #[.slice ca cs.length ccap] 70)).alloc (.cells #[.slice none 0 0] 22)) 9 (.string L)
  simp only [World.size_alloc] at bL bN
  have hB0 := below3 w2 (.cells #[.slice ca cs.length ccap] 70) (.cells #[.slice none 0 0] 22) (.cells #[.string L] 9)
  have hsz : (((w2.alloc (.cells #[.slice ca cs.length ccap] 70)).alloc (.cells #[.slice none 0 0] 22)).alloc (.cells #[.string L] 9)).heap.size = w2.heap.size + 3 := by simp
  obtain ⟨W0, hW0⟩ : ∃ W0, ((w2.alloc (.cells #[.slice ca cs.length ccap] 70)).alloc (.cells #[.slice none 0 0] 22)).alloc (.cells #[.string L] 9) = W0 := ⟨_, rfl⟩
  rw [hW0] at bC bL bN hB0 hsz ⊢
  clear hW0
  have hE0 : Env (w2.heap.size + 1) (w2.heap.size + 1 + 1) L W0 := ⟨bN, ⟨_, bL, fun k hk => by simp [Value.ownBlock] at hk⟩, libVar_below hB0 hL2⟩
  refine wpIn_range_paid rfl (by decide) (gf := 60) (lb := #[.pointer (some ⟨w2.heap.size + 1 + 1, 0, none⟩)]) rfl trivial (enters_of Try.func60 (by kernel_rfl) rfl)
    (tokens_stops _ (by decide) L (by omega) (w2.heap.size + 1 + 1) (w2.heap.size + 1) W0 hE0) (fun Y W l o o' _ hl ho h => lastKept_put o' hl ho h) (Below.refl _ _) (fun _ => rfl)
    (fun pre W => (((∃ v, Boxed W (w2.heap.size + 1) 22 v ∧ W.ownsRow w2.heap.size 49 5 v pre.length (ydCells (srcP cs pre)) ∧ TrY pre v) ∧ Boxed W w2.heap.size 70 (.slice ca cs.length ccap)) ∧ Below w2.heap.size w2 W) ∧ erAll pre)
    (fun c pre W => (∃ n : Nat, (Boxed W w.heap.size 22 (.slice none 0 0) ∧ Boxed W (w.heap.size + 1) 27 (.int .i64 n)) ∧ ErrF n pre) ∧ Below w.heap.size w W ∧ c = .ret)
    ?ownI ?ownX
    ⟨⟨⟨⟨_, bL, World.ownsRow_nil _ _ _ _, trivial⟩, bC⟩, hB0⟩, fun _ h => by (cases h)⟩
    (fun x Y a' W => ∃ Bx, Y.heap.size ≤ Bx ∧ W.heap[Bx]? = some (.cells #[.int .i64 x.1.k, .string x.1.tx, .int .i64 x.1.a, .int .i64 x.1.e, .bool x.1.sp] 49 (0, 0)) ∧ KeptC Y W ∧ (∃ v0, Boxed Y (w2.heap.size + 1) 22 v0 ∧ ∀ k, v0.ownBlock = some k → k < Y.heap.size) ∧ Y.heap.size < W.heap.size ∧ a' = { tmps := #[.string s, undef, .pointer (some ⟨w.heap.size, 0, none⟩), .pointer (some ⟨w.heap.size + 1, 0, none⟩), .string L, .int .i64 0, .pointer (some ⟨w2.heap.size, 0, none⟩), .pointer (some ⟨w2.heap.size + 1, 0, none⟩), .pointer (some ⟨Bx, 0, none⟩), .int .i64 x.1.er, undef, undef, .tuple #[.string L, .int .i64 0], .string s, .tuple #[.string L, .int .i64 0], .string L, .int .i64 0, .int .i64 0, .bool false, undef, .tuple #[.slice ca cs.length ccap, .int .i64 0], .string s, .tuple #[.slice ca cs.length ccap, .int .i64 0], .slice ca cs.length ccap, .int .i64 0, .int .i64 0, .bool false, undef, .string L, .func (.func 60) #[] #[.pointer (some ⟨w2.heap.size + 1 + 1, 0, none⟩)], .agg #[.int .i64 x.1.k, .string x.1.tx, .int .i64 x.1.a, .int .i64 x.1.e, .bool x.1.sp], .int .i64 x.1.er, undef, undef, undef, undef, undef, undef, undef, undef, undef, undef, undef, undef, undef, undef, undef, undef, undef, undef, undef, undef, undef, undef, undef, undef, undef, undef, undef, undef], defers := [] })
    (fun x Y a' _ X Z row hs' hg hr => by
      obtain ⟨Bx, h0, h1, h2, h4, h5, h3⟩ := hs'
      refine ⟨Bx, h0, (hg.block Bx (Array.getElem?_eq_some_iff.1 h1).1 (fun e => ?_)).trans h1, KeptC.own Y () X Z row h2 hg hr, h4, Nat.lt_of_lt_of_le h5 hg.size, h3⟩
      obtain ⟨_, o, ho, hc⟩ := hr Bx e.symm
      rw [h1] at ho; cases ho; cases hc)
    ?assign ?body ?done ?stop
  case ownI =>
    exact OwnFrom.and (OwnFrom.and (OwnFrom.and (Own.from (holdsRow_own w2.heap.size (w2.heap.size + 1) 22 49 5 (fun pre => pre.length) (fun pre => ydCells (srcP cs pre)) TrY) _) (Own.from (boxed_own _ _ _) _)) (ownFrom_below (Nat.le_refl _) (by omega))) (ownFrom_pure _ _)
  case ownX =>
    intro c pre X Z row h hg hr
    obtain ⟨⟨n, ⟨h1, h2⟩, h3⟩, hb, hc⟩ := h
    have hr' : ∀ r, row = some r → ∃ o : Obj, X.heap[r]? = some o ∧ o.isCells = false := fun r e => (hr r e).2
    exact ⟨⟨n, ⟨boxed_own _ _ (fun (_ : Unit) => Value.slice none 0 0) () X Z row h1 hg hr', boxed_own _ _ (fun (_ : Unit) => Value.int .i64 n) () X Z row h2 hg hr'⟩, h3⟩, (ownFrom_below (β := Unit) (Nat.le_refl _) (by omega)) () X Z row hb hg hr, hc⟩
  case assign =>
    rintro l pre x Y K ⟨⟨⟨⟨v, bL1, hrow, _⟩, bC1⟩, hB1⟩, hp⟩ hK
    unfold encY
    gi_wp2
    exact hK _ _ ((KeepsOthers.alloc _ _).from _) ⟨⟨⟨⟨v, bL1.alloc _, hrow.alloc _, trivial⟩, bC1.alloc _⟩, hB1.alloc hB1.size _⟩, hp⟩ ⟨Y.heap.size, Nat.le_refl _, World.alloc_heap_new _ _, KeptC.of_below (below1 _ _), ⟨v, bL1, fun k hk => (hrow.lt k hk).2⟩, by simp, rfl⟩
  case done =>
    rintro D ys W hD hys ⟨⟨⟨⟨v, bL1, hrow, _⟩, bC1⟩, hB1⟩, hp⟩ hK
    have hc := bL1.cell
    have b2 : Boxed W w.heap.size 22 (.slice none 0 0) := (hB1.block _ (by omega)).trans c2
    have b3 : Boxed W (w.heap.size + 1) 27 (.int .i64 0) := (hB1.block _ (by omega)).trans c3
    have e2 := b2.cell
    have e3 := b3.cell
    have f2 := b2.frozen
    have f3 := b3.frozen
    have HD := Lib.hid (all_done hys hp)
    have hyl : Hid (ydP ys = toksY L → scanOf s = srcP cs ys) := Lib.hid (fun h => by
      have h1 := (all_done hys hp).2
      rw [← HLL.out] at h1
      have h2 : toksY (logB s) = ydP ys := by rw [HLL.out]; exact h.symm
      unfold scanOf srcP
      rw [scanErr_ok HOK.out, h1, HCS.out, h2]; rfl)
    clear hys
    obtain ⟨a, cap, rfl⟩ := row_shape hrow
    gi_wp2
    obtain ⟨g2, g3⟩ := set2_cells b2 b3 (by omega) (.slice a ys.length cap) (.int .i64 0)
    have hK2 : ((W.setCell ⟨w.heap.size, 0, none⟩ (.slice a ys.length cap)).setCell ⟨w.heap.size + 1, 0, none⟩ (.int .i64 0)).heap[D]? = some (.deferred (some [])) := (Below.heap_setCell _ _ _ _ (by simp only; omega)).trans ((Below.heap_setCell _ _ _ _ (by simp only; omega)).trans hK)
    refine ⟨by simp, .inl ⟨_, _, rfl, run_takeDeferred hK2, ?_⟩⟩
    refine ⟨_, results_scan _ w.heap.size (w.heap.size + 1) _ _ _ rfl rfl ((World.cell?_of_block (a := ⟨w.heap.size, 0, none⟩) (World.putObj_heap_other (by simp only; omega))).trans g2.cell) ((World.cell?_of_block (a := ⟨w.heap.size + 1, 0, none⟩) (World.putObj_heap_other (by simp only; omega))).trans g3.cell), ?_⟩
    refine ⟨⟨_, r2c (by rw [scanErr_ok HOK.out, HLL.out, HD.out.2]; rfl), ?_⟩, ?_⟩
    · rw [hyl.out HD.out.1]
      have hl : (srcP cs ys).length = ys.length := by unfold srcP; rw [List.length_map, ydP_len]
      rw [hl]
      have h1 := row_base (b' := w.heap.size) (by omega) hrow
      refine ownsRow_putObj ?_ _ hK2 rfl
      refine (h1.kept (grownBy_setCell' W w.heap.size _) ?_).kept (grownBy_setCell' _ (w.heap.size + 1) _) ?_
      all_goals
        cases ho : (Value.slice a ys.length cap).ownBlock with
        | none => exact .inl rfl
        | some k => exact .inr (fun e => by have := (hrow.lt k ho).1; have := Option.some.inj e; omega)
    · have hB : Below w.heap.size w W := hBw2.trans (hB1.mono (by omega))
      have hB2 := (hB.setCell (p := ⟨w.heap.size, 0, none⟩) (Nat.le_refl _) (.slice a ys.length cap)).setCell (p := ⟨w.heap.size + 1, 0, none⟩) (by simp) (.int .i64 0)
      exact hB2.trans (belowK_b (w := w) (Nat.le_refl _) _ D _ _ (by omega) hK2 rfl rfl)
  case stop =>
    rintro D c pre W hD hpre ⟨⟨n, ⟨b2, b3⟩, q, x, rfl, hxe, hq, rfl⟩, hB1, rfl⟩ hK
    have HE : Hid (scanErr s = x.1.er) := Lib.hid (by
      have h1 := (pre_err hpre hq hxe).2
      rw [scanErr_ok HOK.out, HLL.out, h1])
    gi_wp2
    refine ⟨by simp, .inl ⟨_, _, rfl, run_takeDeferred hK, ?_⟩⟩
    refine ⟨_, results_scan _ w.heap.size (w.heap.size + 1) _ _ _ rfl rfl ((World.cell?_of_block (a := ⟨w.heap.size, 0, none⟩) (World.putObj_heap_other (by simp only; omega))).trans b2.cell) ((World.cell?_of_block (a := ⟨w.heap.size + 1, 0, none⟩) (World.putObj_heap_other (by simp only; omega))).trans b3.cell), ?_⟩
    refine ⟨⟨_, r2c HE.out.symm, ?_⟩, hB1.trans (belowK_b (w := w) (Nat.le_refl _) W D _ _ (by omega) hK rfl rfl)⟩
    have : scanOf s = [] := by unfold scanOf; rw [if_neg (by rw [HE.out]; omega)]
    rw [this]
    exact World.ownsRow_nil _ _ _ _
  case body =>
    rintro l pre x Y a' W hl ⟨r, hr⟩ ⟨⟨⟨⟨v, bL1, hrow, _⟩, bC1⟩, hB1⟩, hp⟩ ⟨Bx, hBx, bX, hKC, ⟨v0, hv0, hv0b⟩, hYW, rfl⟩ hlt
    obtain rfl : v0 = v := by
      have h1 := hKC.2 _ _ _ _ hv0
      rw [show W.heap[w2.heap.size + 1]? = _ from bL1] at h1
      simp only [Option.some.injEq, Obj.cells.injEq] at h1
      simpa using h1.1.symm
    have d0 : W.cell? ⟨Bx, 0, none⟩ = some (.int .i64 x.1.k) := by rw [Lib.cell_of_heap bX]; rfl
    have d1 : W.cell? ⟨Bx, 1, none⟩ = some (.string x.1.tx) := by rw [Lib.cell_of_heap bX]; rfl
    have d2 : W.cell? ⟨Bx, 2, none⟩ = some (.int .i64 x.1.a) := by rw [Lib.cell_of_heap bX]; rfl
    have d3 : W.cell? ⟨Bx, 3, none⟩ = some (.int .i64 x.1.e) := by rw [Lib.cell_of_heap bX]; rfl
    have d4 : W.cell? ⟨Bx, 4, none⟩ = some (.bool x.1.sp) := by rw [Lib.cell_of_heap bX]; rfl
    have hc := bL1.cell
    have hcC := bC1.cell
    by_cases her : x.1.er = 0
    · obtain ⟨hae, hel⟩ := yd_in x her
      obtain ⟨g, rfl, hgl, hcell⟩ := row_pos (by omega) hcr
      have hkg : ∀ o, W.cell? ⟨g, o, none⟩ = w2.cell? ⟨g, o, none⟩ := fun o => hB1.cell (p := ⟨g, o, none⟩) hgl
      obtain ⟨p0, p1, p2⟩ := char_cells (k := x.1.a) (by omega) hcell hkg
      obtain ⟨q0, q1, q2⟩ := char_cells (k := x.1.e - 1) (by omega) hcell hkg
      obtain ⟨p, hpd⟩ : ∃ p, chAt cs x.1.a = p := ⟨_, rfl⟩
      obtain ⟨q, hqd⟩ : ∃ q, chAt cs (x.1.e - 1) = q := ⟨_, rfl⟩
      rw [hpd] at p0 p1 p2
      rw [hqd] at q0 q1 q2
      have hqb : q.at' + q.n ≤ 65536 := by
        rw [← hqd]
        exact hcb _ (List.mem_of_getElem? (chAt_get (by omega)))
      have HPD := Lib.hid hpd
      have HQD := Lib.hid hqd
      clear hpd hqd hkg
      gi_wp2
      have hmx : Try.prog.follows .mixedOrders = true := by kernel_rfl
      have hS0 : (fun W' : World => (W'.heap[Bx]? = some (.cells #[.int .i64 x.1.k, .string x.1.tx, .int .i64 x.1.a, .int .i64 x.1.e, .bool x.1.sp] 49 (0, 0)) ∧ W'.heap[w2.heap.size]? = some (.cells #[.slice (some ⟨g, 0, none⟩) cs.length ccap] 70 (0, 0))) ∧ ∀ o, W'.cell? ⟨g, o, none⟩ = W.cell? ⟨g, o, none⟩) W.drew := ⟨⟨bX, bC1⟩, fun _ => rfl⟩
      refine wpIn_mono (Q := fun (e : Exit) (a' : Act) (W' : World) => e = .normal ∧ ∃ P R : Nat, (W.heap.size ≤ P ∧ W.heap.size ≤ R ∧ P ≠ R) ∧ W'.heap[P]? = some (.cells #[.int .u8 p.b.toNat, .int .i64 p.at', .int .i64 p.n] 77 (0, 0)) ∧ W'.heap[R]? = some (.cells #[.int .u8 q.b.toNat, .int .i64 q.at', .int .i64 q.n] 77 (0, 0)) ∧ Below W.heap.size W W' ∧ a' = { tmps := #[.string s, undef, .pointer (some ⟨w.heap.size, 0, none⟩), .pointer (some ⟨w.heap.size + 1, 0, none⟩), .string L, .int .i64 0, .pointer (some ⟨w2.heap.size, 0, none⟩), .pointer (some ⟨w2.heap.size + 1, 0, none⟩), .pointer (some ⟨Bx, 0, none⟩), .int .i64 0, .pointer (some ⟨P, 0, none⟩), .pointer (some ⟨R, 0, none⟩), .tuple #[.string L, .int .i64 0], .string s, .tuple #[.string L, .int .i64 0], .string L, .int .i64 0, .int .i64 0, .bool false, undef, .tuple #[.slice (some ⟨g, 0, none⟩) cs.length ccap, .int .i64 0], .string s, .tuple #[.slice (some ⟨g, 0, none⟩) cs.length ccap, .int .i64 0], .slice (some ⟨g, 0, none⟩) cs.length ccap, .int .i64 0, .int .i64 0, .bool false, undef, .string L, .func (.func 60) #[] #[.pointer (some ⟨w2.heap.size + 1 + 1, 0, none⟩)], .agg #[.int .i64 x.1.k, .string x.1.tx, .int .i64 x.1.a, .int .i64 x.1.e, .bool x.1.sp], .int .i64 0, .int .i64 0, .bool false, undef, .slice (some ⟨g, 0, none⟩) cs.length ccap, .pointer (some ⟨Bx, 2, none⟩), .int .i64 x.1.a, .pointer (some ⟨g, x.1.a * 3, none⟩), .agg #[.int .u8 p.b.toNat, .int .i64 p.at', .int .i64 p.n], .slice (some ⟨g, 0, none⟩) cs.length ccap, .pointer (some ⟨Bx, 3, none⟩), .int .i64 x.1.e, .int .i64 ((x.1.e : Int) - 1), .pointer (some ⟨g, (x.1.e - 1) * 3, none⟩), .agg #[.int .u8 q.b.toNat, .int .i64 q.at', .int .i64 q.n], undef, undef, undef, undef, undef, undef, undef, undef, undef, undef, undef, undef, undef, undef], defers := [] }) ?reg13 ?cont13
      case reg13 =>
        refine region_round (l := l) (fun W' : World => (W'.heap[Bx]? = some (.cells #[.int .i64 x.1.k, .string x.1.tx, .int .i64 x.1.a, .int .i64 x.1.e, .bool x.1.sp] 49 (0, 0)) ∧ W'.heap[w2.heap.size]? = some (.cells #[.slice (some ⟨g, 0, none⟩) cs.length ccap] 70 (0, 0))) ∧ ∀ o, W'.cell? ⟨g, o, none⟩ = W.cell? ⟨g, o, none⟩) hmx (by kernel_rfl) (fun ⟨_, _, h⟩ => by cases h.1) ?_
        refine take_at (i := 0) (d := 35) (v := .slice (some ⟨g, 0, none⟩) cs.length ccap) rfl rfl (by kernel_rfl) (by kernel_rfl) (by kernel_rfl) (fun _ _ _ h => by cases h.1) (Or.inl ⟨by rfl, ?_⟩) hS0 ?_
        · rintro w' ⟨⟨hS1, hS2⟩, hS3⟩
          have e1 : w'.cell? ⟨w2.heap.size, 0, none⟩ = _ := (show Boxed w' w2.heap.size 70 _ from hS2).cell
          go_simp
        simp only [List.setIfInBounds_toArray, List.set_cons_zero, List.set_cons_succ]
        refine take_at (i := 1) (d := 36) (v := .pointer (some ⟨Bx, 2, none⟩)) rfl rfl (by kernel_rfl) (by kernel_rfl) (by kernel_rfl) (fun _ _ _ h => by cases h.1) (Or.inl ⟨by rfl, ?_⟩) hS0 ?_
        · rintro w' ⟨⟨hS1, hS2⟩, hS3⟩
          go_simp
        simp only [List.setIfInBounds_toArray, List.set_cons_zero, List.set_cons_succ]
        refine take_at (i := 2) (d := 37) (v := .int .i64 x.1.a) rfl rfl (by kernel_rfl) (by kernel_rfl) (by kernel_rfl) (fun _ _ _ h => by cases h.1) (Or.inl ⟨by rfl, ?_⟩) hS0 ?_
        · rintro w' ⟨⟨hS1, hS2⟩, hS3⟩
          have e2 : w'.cell? ⟨Bx, 2, none⟩ = some (.int .i64 x.1.a) := by rw [Lib.cell_of_heap hS1]; rfl
          go_simp
        simp only [List.setIfInBounds_toArray, List.set_cons_zero, List.set_cons_succ]
        refine take_at (i := 3) (d := 38) (v := .pointer (some ⟨g, x.1.a * 3, none⟩)) rfl rfl (by kernel_rfl) (by kernel_rfl) (by kernel_rfl) (fun _ _ _ h => by cases h.1) (Or.inl ⟨by rfl, ?_⟩) hS0 ?_
        · rintro w' ⟨⟨hS1, hS2⟩, hS3⟩
          go_simp
          intro hh
          exfalso
          omega
        simp only [List.setIfInBounds_toArray, List.set_cons_zero, List.set_cons_succ]
        refine take_at (i := 4) (d := 39) (v := .agg #[.int .u8 p.b.toNat, .int .i64 p.at', .int .i64 p.n]) rfl rfl (by kernel_rfl) (by kernel_rfl) (by kernel_rfl) (fun _ _ _ h => by cases h.1) (Or.inl ⟨by rfl, ?_⟩) hS0 ?_
        · rintro w' ⟨⟨hS1, hS2⟩, hS3⟩
          have e0 := (hS3 _).trans p0
          have e1 := (hS3 _).trans p1
          have e2 := (hS3 _).trans p2
          go_simp
        simp only [List.setIfInBounds_toArray, List.set_cons_zero, List.set_cons_succ]
        refine take_at (i := 5) (d := 40) (v := .slice (some ⟨g, 0, none⟩) cs.length ccap) rfl rfl (by kernel_rfl) (by kernel_rfl) (by kernel_rfl) (fun _ _ _ h => by cases h.1) (Or.inl ⟨by rfl, ?_⟩) hS0 ?_
        · rintro w' ⟨⟨hS1, hS2⟩, hS3⟩
          have e1 : w'.cell? ⟨w2.heap.size, 0, none⟩ = _ := (show Boxed w' w2.heap.size 70 _ from hS2).cell
          go_simp
        simp only [List.setIfInBounds_toArray, List.set_cons_zero, List.set_cons_succ]
        refine take_at (i := 6) (d := 41) (v := .pointer (some ⟨Bx, 3, none⟩)) rfl rfl (by kernel_rfl) (by kernel_rfl) (by kernel_rfl) (fun _ _ _ h => by cases h.1) (Or.inl ⟨by rfl, ?_⟩) hS0 ?_
        · rintro w' ⟨⟨hS1, hS2⟩, hS3⟩
          go_simp
        simp only [List.setIfInBounds_toArray, List.set_cons_zero, List.set_cons_succ]
        refine take_at (i := 7) (d := 42) (v := .int .i64 x.1.e) rfl rfl (by kernel_rfl) (by kernel_rfl) (by kernel_rfl) (fun _ _ _ h => by cases h.1) (Or.inl ⟨by rfl, ?_⟩) hS0 ?_
        · rintro w' ⟨⟨hS1, hS2⟩, hS3⟩
          have e2 : w'.cell? ⟨Bx, 3, none⟩ = some (.int .i64 x.1.e) := by rw [Lib.cell_of_heap hS1]; rfl
          go_simp
        simp only [List.setIfInBounds_toArray, List.set_cons_zero, List.set_cons_succ]
        refine take_at (i := 8) (d := 43) (v := .int .i64 ((x.1.e : Int) - 1)) rfl rfl (by kernel_rfl) (by kernel_rfl) (by kernel_rfl) (fun _ _ _ h => by cases h.1) (Or.inl ⟨by rfl, ?_⟩) hS0 ?_
        · rintro w' ⟨⟨hS1, hS2⟩, hS3⟩
          go_simp
          exact IntWalk.i64_in _ (by omega)
        simp only [List.setIfInBounds_toArray, List.set_cons_zero, List.set_cons_succ]
        refine take_at (i := 9) (d := 44) (v := .pointer (some ⟨g, (x.1.e - 1) * 3, none⟩)) rfl rfl (by kernel_rfl) (by kernel_rfl) (by kernel_rfl) (fun _ _ _ h => by cases h.1) (Or.inl ⟨by rfl, ?_⟩) hS0 ?_
        · rintro w' ⟨⟨hS1, hS2⟩, hS3⟩
          have en : ((x.1.e : Int) - 1).toNat = x.1.e - 1 := by omega
          go_simp
          intro hh
          exfalso
          have := hh (by omega)
          omega
        simp only [List.setIfInBounds_toArray, List.set_cons_zero, List.set_cons_succ]
        refine take_at (i := 10) (d := 45) (v := .agg #[.int .u8 q.b.toNat, .int .i64 q.at', .int .i64 q.n]) rfl rfl (by kernel_rfl) (by kernel_rfl) (by kernel_rfl) (fun _ _ _ h => by cases h.1) (Or.inl ⟨by rfl, ?_⟩) hS0 ?_
        · rintro w' ⟨⟨hS1, hS2⟩, hS3⟩
          have e0 := (hS3 _).trans q0
          have e1 := (hS3 _).trans q1
          have e2 := (hS3 _).trans q2
          go_simp
        simp only [List.setIfInBounds_toArray, List.set_cons_zero, List.set_cons_succ]
        have hSb : ∀ W' : World, Below W.heap.size W W' → (fun W' : World => (W'.heap[Bx]? = some (.cells #[.int .i64 x.1.k, .string x.1.tx, .int .i64 x.1.a, .int .i64 x.1.e, .bool x.1.sp] 49 (0, 0)) ∧ W'.heap[w2.heap.size]? = some (.cells #[.slice (some ⟨g, 0, none⟩) cs.length ccap] 70 (0, 0))) ∧ ∀ o, W'.cell? ⟨g, o, none⟩ = W.cell? ⟨g, o, none⟩) W' := fun W' hW' => ⟨⟨(hW'.block Bx (Array.getElem?_eq_some_iff.1 bX).1).trans bX, (hW'.block _ bC1.lt).trans bC1⟩, fun o => hW'.cell (p := ⟨g, o, none⟩) (Nat.lt_of_lt_of_le hgl hB1.size)⟩
        refine wpAnyH_ready (rs := [11, 12]) (by kernel_rfl) (by simp) ?_
        refine AllReadyH.cons rfl (fun K hK => ?_) (AllReadyH.cons rfl (fun K hK => ?_) AllReadyH.nil)
        · go_simp
          refine hK.out _ _ (hSb _ (((Below.refl _ _).alloc (Nat.le_refl _) _).drew)) (fun _ => ?_)
          clear hK K
          refine wpAnyH_ready (rs := [12]) (by kernel_rfl) (by simp) ?_
          refine AllReadyH.cons rfl (fun K hK => ?_) AllReadyH.nil
          go_simp
          refine hK.out _ _ (hSb _ ((((Below.refl _ _).alloc (Nat.le_refl _) _).alloc (by simp) _).drew)) (fun _ => ?_)
          clear hK K
          refine wpAnyH_ready (rs := [13]) (by kernel_rfl) (by simp) ?_
          refine AllReadyH.cons rfl (fun K hK => ?_) AllReadyH.nil
          go_simp
          refine hK.out _ _ (hSb _ ((((Below.refl _ _).alloc (Nat.le_refl _) _).alloc (by simp) _).drew)) (fun _ => ?_)
          clear hK K
          refine wpAnyH_ready (rs := [14]) (by kernel_rfl) (by simp) ?_
          refine AllReadyH.cons rfl (fun K hK => ?_) AllReadyH.nil
          go_simp
          refine hK.out _ _ (hSb _ ((((Below.refl _ _).alloc (Nat.le_refl _) _).alloc (by simp) _).drew)) (fun _ => ?_)
          clear hK K
          refine wpAnyH_done (by kernel_rfl) ?_ _
          have h1 := World.alloc_heap_new W (.cells #[.int .u8 p.b.toNat, .int .i64 p.at', .int .i64 p.n] 77)
          have h2 := World.alloc_heap_new (W.alloc (.cells #[.int .u8 p.b.toNat, .int .i64 p.at', .int .i64 p.n] 77)) (.cells #[.int .u8 q.b.toNat, .int .i64 q.at', .int .i64 q.n] 77)
          rw [World.size_alloc] at h2
          exact ⟨rfl, W.heap.size, W.heap.size + 1, ⟨Nat.le_refl _, by omega, by omega⟩, (Below.heap_alloc _ _ _ (by simp)).trans h1, h2, ((Below.refl _ _).alloc (Nat.le_refl _) _).alloc (by simp) _ |>.drew, rfl⟩
        · go_simp
          refine hK.out _ _ (hSb _ (((Below.refl _ _).alloc (Nat.le_refl _) _).drew)) (fun _ => ?_)
          clear hK K
          refine wpAnyH_ready (rs := [11]) (by kernel_rfl) (by simp) ?_
          refine AllReadyH.cons rfl (fun K hK => ?_) AllReadyH.nil
          go_simp
          refine hK.out _ _ (hSb _ ((((Below.refl _ _).alloc (Nat.le_refl _) _).alloc (by simp) _).drew)) (fun _ => ?_)
          clear hK K
          refine wpAnyH_ready (rs := [13]) (by kernel_rfl) (by simp) ?_
          refine AllReadyH.cons rfl (fun K hK => ?_) AllReadyH.nil
          go_simp
          refine hK.out _ _ (hSb _ ((((Below.refl _ _).alloc (Nat.le_refl _) _).alloc (by simp) _).drew)) (fun _ => ?_)
          clear hK K
          refine wpAnyH_ready (rs := [14]) (by kernel_rfl) (by simp) ?_
          refine AllReadyH.cons rfl (fun K hK => ?_) AllReadyH.nil
          go_simp
          refine hK.out _ _ (hSb _ ((((Below.refl _ _).alloc (Nat.le_refl _) _).alloc (by simp) _).drew)) (fun _ => ?_)
          clear hK K
          refine wpAnyH_done (by kernel_rfl) ?_ _
          have h1 := World.alloc_heap_new W (.cells #[.int .u8 q.b.toNat, .int .i64 q.at', .int .i64 q.n] 77)
          have h2 := World.alloc_heap_new (W.alloc (.cells #[.int .u8 q.b.toNat, .int .i64 q.at', .int .i64 q.n] 77)) (.cells #[.int .u8 p.b.toNat, .int .i64 p.at', .int .i64 p.n] 77)
          rw [World.size_alloc] at h2
          exact ⟨rfl, W.heap.size + 1, W.heap.size, ⟨by omega, Nat.le_refl _, by omega⟩, h2, (Below.heap_alloc _ _ _ (by simp)).trans h1, ((Below.refl _ _).alloc (Nat.le_refl _) _).alloc (by simp) _ |>.drew, rfl⟩
      case cont13 =>
        rintro e a' W3 ⟨rfl, P, R, ⟨hP, hR, hPR⟩, bP, bR, hb3, rfl⟩
        clear hS0
        gi_wp2
        have lX3 : Bx < W3.heap.size := Nat.lt_of_lt_of_le (Array.getElem?_eq_some_iff.1 bX).1 hb3.size
        have bX3 := (hb3.block Bx (Array.getElem?_eq_some_iff.1 bX).1).trans bX
        have k2 : W3.cell? ⟨Bx, 2, none⟩ = some (.int .i64 x.1.a) := by rw [Lib.cell_of_heap bX3]; rfl
        have k3 : W3.cell? ⟨Bx, 3, none⟩ = some (.int .i64 x.1.e) := by rw [Lib.cell_of_heap bX3]; rfl
        have z2 : W3.frozen? ⟨Bx, 2, none⟩ = false := by simp [World.frozen?, bX3]
        have z3 : W3.frozen? ⟨Bx, 3, none⟩ = false := by simp [World.frozen?, bX3]
        have hBP : Bx ≠ P := fun e => by rw [e] at bX; have := (Array.getElem?_eq_some_iff.1 bX).1; omega
        have hBR : Bx ≠ R := fun e => by rw [e] at bX; have := (Array.getElem?_eq_some_iff.1 bX).1; omega
        refine wpIn_mono (Q := fun (e : Exit) (a' : Act) (W' : World) => e = .normal ∧ W'.heap[Bx]? = some (.cells #[.int .i64 x.1.k, .string x.1.tx, .int .i64 p.at', .int .i64 ((q.at' : Int) + q.n), .bool x.1.sp] 49 (0, 0)) ∧ W3.grownBy W' (some Bx) ∧ a' = { tmps := #[.string s, undef, .pointer (some ⟨w.heap.size, 0, none⟩), .pointer (some ⟨w.heap.size + 1, 0, none⟩), .string L, .int .i64 0, .pointer (some ⟨w2.heap.size, 0, none⟩), .pointer (some ⟨w2.heap.size + 1, 0, none⟩), .pointer (some ⟨Bx, 0, none⟩), .int .i64 0, .pointer (some ⟨P, 0, none⟩), .pointer (some ⟨R, 0, none⟩), .tuple #[.string L, .int .i64 0], .string s, .tuple #[.string L, .int .i64 0], .string L, .int .i64 0, .int .i64 0, .bool false, undef, .tuple #[.slice (some ⟨g, 0, none⟩) cs.length ccap, .int .i64 0], .string s, .tuple #[.slice (some ⟨g, 0, none⟩) cs.length ccap, .int .i64 0], .slice (some ⟨g, 0, none⟩) cs.length ccap, .int .i64 0, .int .i64 0, .bool false, undef, .string L, .func (.func 60) #[] #[.pointer (some ⟨w2.heap.size + 1 + 1, 0, none⟩)], .agg #[.int .i64 x.1.k, .string x.1.tx, .int .i64 x.1.a, .int .i64 x.1.e, .bool x.1.sp], .int .i64 0, .int .i64 0, .bool false, undef, .slice (some ⟨g, 0, none⟩) cs.length ccap, .pointer (some ⟨Bx, 2, none⟩), .int .i64 x.1.a, .pointer (some ⟨g, x.1.a * 3, none⟩), .agg #[.int .u8 p.b.toNat, .int .i64 p.at', .int .i64 p.n], .slice (some ⟨g, 0, none⟩) cs.length ccap, .pointer (some ⟨Bx, 3, none⟩), .int .i64 x.1.e, .int .i64 ((x.1.e : Int) - 1), .pointer (some ⟨g, (x.1.e - 1) * 3, none⟩), .agg #[.int .u8 q.b.toNat, .int .i64 q.at', .int .i64 q.n], .pointer (some ⟨P, 1, none⟩), .int .i64 p.at', .pointer (some ⟨R, 1, none⟩), .int .i64 q.at', .pointer (some ⟨R, 2, none⟩), .int .i64 q.n, .int .i64 ((q.at' : Int) + q.n), .pointer (some ⟨Bx, 2, none⟩), .pointer (some ⟨Bx, 3, none⟩), undef, undef, undef, undef, undef], defers := [] }) ?reg14 ?cont14
        case reg14 =>
          have hS4 : (fun W' : World => W'.heap[P]? = some (.cells #[.int .u8 p.b.toNat, .int .i64 p.at', .int .i64 p.n] 77 (0, 0)) ∧ W'.heap[R]? = some (.cells #[.int .u8 q.b.toNat, .int .i64 q.at', .int .i64 q.n] 77 (0, 0))) W3.drew := ⟨bP, bR⟩
          have hSc : ∀ (W' : World) (o : Nat) (u : Value), (fun W' : World => W'.heap[P]? = some (.cells #[.int .u8 p.b.toNat, .int .i64 p.at', .int .i64 p.n] 77 (0, 0)) ∧ W'.heap[R]? = some (.cells #[.int .u8 q.b.toNat, .int .i64 q.at', .int .i64 q.n] 77 (0, 0))) W' → (fun W' : World => W'.heap[P]? = some (.cells #[.int .u8 p.b.toNat, .int .i64 p.at', .int .i64 p.n] 77 (0, 0)) ∧ W'.heap[R]? = some (.cells #[.int .u8 q.b.toNat, .int .i64 q.at', .int .i64 q.n] 77 (0, 0))) (W'.setCell ⟨Bx, o, none⟩ u) := fun W' o u h => ⟨(Below.heap_setCell _ _ _ _ (Ne.symm hBP)).trans h.1, (Below.heap_setCell _ _ _ _ (Ne.symm hBR)).trans h.2⟩
          refine region_round (l := l) (fun W' : World => W'.heap[P]? = some (.cells #[.int .u8 p.b.toNat, .int .i64 p.at', .int .i64 p.n] 77 (0, 0)) ∧ W'.heap[R]? = some (.cells #[.int .u8 q.b.toNat, .int .i64 q.at', .int .i64 q.n] 77 (0, 0))) hmx (by kernel_rfl) (fun ⟨_, _, h⟩ => by cases h.1) ?_
          refine take_at (i := 0) (d := 46) (v := .pointer (some ⟨P, 1, none⟩)) rfl rfl (by kernel_rfl) (by kernel_rfl) (by kernel_rfl) (fun _ _ _ h => by cases h.1) (Or.inl ⟨by rfl, ?_⟩) hS4 ?_
          · rintro w' ⟨hS1, hS2⟩
            go_simp
          simp only [List.setIfInBounds_toArray, List.set_cons_zero, List.set_cons_succ]
          refine take_at (i := 1) (d := 47) (v := .int .i64 p.at') rfl rfl (by kernel_rfl) (by kernel_rfl) (by kernel_rfl) (fun _ _ _ h => by cases h.1) (Or.inl ⟨by rfl, ?_⟩) hS4 ?_
          · rintro w' ⟨hS1, hS2⟩
            have e1 : w'.cell? ⟨P, 1, none⟩ = some (.int .i64 p.at') := by rw [Lib.cell_of_heap hS1]; rfl
            go_simp
          simp only [List.setIfInBounds_toArray, List.set_cons_zero, List.set_cons_succ]
          refine take_at (i := 2) (d := 48) (v := .pointer (some ⟨R, 1, none⟩)) rfl rfl (by kernel_rfl) (by kernel_rfl) (by kernel_rfl) (fun _ _ _ h => by cases h.1) (Or.inl ⟨by rfl, ?_⟩) hS4 ?_
          · rintro w' ⟨hS1, hS2⟩
            go_simp
          simp only [List.setIfInBounds_toArray, List.set_cons_zero, List.set_cons_succ]
          refine take_at (i := 3) (d := 49) (v := .int .i64 q.at') rfl rfl (by kernel_rfl) (by kernel_rfl) (by kernel_rfl) (fun _ _ _ h => by cases h.1) (Or.inl ⟨by rfl, ?_⟩) hS4 ?_
          · rintro w' ⟨hS1, hS2⟩
            have e1 : w'.cell? ⟨R, 1, none⟩ = some (.int .i64 q.at') := by rw [Lib.cell_of_heap hS2]; rfl
            go_simp
          simp only [List.setIfInBounds_toArray, List.set_cons_zero, List.set_cons_succ]
          refine take_at (i := 4) (d := 50) (v := .pointer (some ⟨R, 2, none⟩)) rfl rfl (by kernel_rfl) (by kernel_rfl) (by kernel_rfl) (fun _ _ _ h => by cases h.1) (Or.inl ⟨by rfl, ?_⟩) hS4 ?_
          · rintro w' ⟨hS1, hS2⟩
            go_simp
          simp only [List.setIfInBounds_toArray, List.set_cons_zero, List.set_cons_succ]
          refine take_at (i := 5) (d := 51) (v := .int .i64 q.n) rfl rfl (by kernel_rfl) (by kernel_rfl) (by kernel_rfl) (fun _ _ _ h => by cases h.1) (Or.inl ⟨by rfl, ?_⟩) hS4 ?_
          · rintro w' ⟨hS1, hS2⟩
            have e1 : w'.cell? ⟨R, 2, none⟩ = some (.int .i64 q.n) := by rw [Lib.cell_of_heap hS2]; rfl
            go_simp
          simp only [List.setIfInBounds_toArray, List.set_cons_zero, List.set_cons_succ]
          refine take_at (i := 6) (d := 52) (v := .int .i64 ((q.at' : Int) + q.n)) rfl rfl (by kernel_rfl) (by kernel_rfl) (by kernel_rfl) (fun _ _ _ h => by cases h.1) (Or.inl ⟨by rfl, ?_⟩) hS4 ?_
          · rintro w' ⟨hS1, hS2⟩
            go_simp
            exact IntWalk.i64_in _ (by omega)
          simp only [List.setIfInBounds_toArray, List.set_cons_zero, List.set_cons_succ]
          refine take_at (i := 7) (d := 53) (v := .pointer (some ⟨Bx, 2, none⟩)) rfl rfl (by kernel_rfl) (by kernel_rfl) (by kernel_rfl) (fun _ _ _ h => by cases h.1) (Or.inl ⟨by rfl, ?_⟩) hS4 ?_
          · rintro w' ⟨hS1, hS2⟩
            go_simp
          simp only [List.setIfInBounds_toArray, List.set_cons_zero, List.set_cons_succ]
          refine wpAnyH_ready (rs := [8]) (by kernel_rfl) (by simp) ?_
          refine AllReadyH.cons rfl (fun K hK => ?_) AllReadyH.nil
          go_simp
          refine hK.out _ _ (hSc _ _ _ hS4) (fun _ => ?_)
          clear hK K
          refine take_at (i := 9) (d := 54) (v := .pointer (some ⟨Bx, 3, none⟩)) rfl rfl (by kernel_rfl) (by kernel_rfl) (by kernel_rfl) (fun _ _ _ h => by cases h.1) (Or.inl ⟨by rfl, ?_⟩) (hSc _ _ _ hS4) ?_
          · rintro w' ⟨hS1, hS2⟩
            go_simp
          simp only [List.setIfInBounds_toArray, List.set_cons_zero, List.set_cons_succ]
          refine wpAnyH_ready (rs := [10]) (by kernel_rfl) (by simp) ?_
          refine AllReadyH.cons rfl (fun K hK => ?_) AllReadyH.nil
          go_simp
          refine hK.out _ _ (hSc _ _ _ (hSc _ _ _ hS4)) (fun _ => ?_)
          clear hK K
          refine wpAnyH_done (by kernel_rfl) ?_ _
          have s1 := heap_setCell_same W3 Bx 2 _ _ (.int .i64 p.at') bX3
          have s2 := heap_setCell_same _ Bx 3 _ _ (.int .i64 ((q.at' : Int) + q.n)) s1
          exact ⟨rfl, s2, ⟨rfl, rfl, rfl, by simp, fun k _ hne => (Below.heap_setCell _ _ _ _ (fun e => hne (by rw [show k = Bx from e]))).trans (Below.heap_setCell _ _ _ _ (fun e => hne (by rw [show k = Bx from e])))⟩, rfl⟩
        case cont14 =>
          rintro e a' W4 ⟨rfl, bX4, hg4, rfl⟩
          have hkeep : ∀ k c T fz, W.heap[k]? = some (Obj.cells c T fz) → k ≠ Bx → W4.heap[k]? = some (Obj.cells c T fz) := fun k c T fz hk hne => by
            have hl := (Array.getElem?_eq_some_iff.1 hk).1
            exact (hg4.block k (Nat.lt_of_lt_of_le hl hb3.size) (fun e => hne (Option.some.inj e))).trans ((hb3.block k hl).trans hk)
          have hlY := hv0.lt
          have bL4 : Boxed W4 (w2.heap.size + 1) 22 v0 := hkeep _ _ _ _ bL1 (by omega)
          have bC4 : Boxed W4 w2.heap.size 70 (.slice (some ⟨g, 0, none⟩) cs.length ccap) := hkeep _ _ _ _ bC1 (by omega)
          have hrow4 : W4.ownsRow w2.heap.size 49 5 v0 pre.length (ydCells (srcP cs pre)) := (hrow.kept (grownBy_below hb3) (by cases v0.ownBlock <;> simp)).kept hg4 (by
            cases ho : v0.ownBlock with
            | none => exact .inl rfl
            | some k => exact .inr (fun e => by have := hv0b k ho; have := Option.some.inj e; omega))
          have hB4 : Below w2.heap.size w2 W4 := (hB1.trans (hb3.mono hB1.size)).grown hg4 (Nat.le_trans hB1.size hb3.size) (fun k e => by have := Option.some.inj e; omega)
          have hKC4 : KeptC Y W4 := ⟨Nat.le_trans hKC.1 (Nat.le_trans hb3.size hg4.size), fun k c T fz hk => hkeep _ _ _ _ (hKC.2 _ _ _ _ hk) (by have := (Array.getElem?_eq_some_iff.1 hk).1; omega)⟩
          have hKO : KeepsOthers W W4 := ⟨Nat.le_trans hb3.size hg4.size, fun k o hk ho => by
            have hl := (Array.getElem?_eq_some_iff.1 hk).1
            refine (hg4.block k (Nat.lt_of_lt_of_le hl hb3.size) (fun e => ?_)).trans ((hb3.block k hl).trans hk)
            have e2 := Option.some.inj e
            rw [e2, bX] at hk
            cases hk; cases ho⟩
          have d0' : W4.cell? ⟨Bx, 0, none⟩ = some (.int .i64 x.1.k) := by rw [Lib.cell_of_heap bX4]; rfl
          have d1' : W4.cell? ⟨Bx, 1, none⟩ = some (.string x.1.tx) := by rw [Lib.cell_of_heap bX4]; rfl
          have d2' : W4.cell? ⟨Bx, 2, none⟩ = some (.int .i64 p.at') := by rw [Lib.cell_of_heap bX4]; rfl
          have d3' : W4.cell? ⟨Bx, 3, none⟩ = some (.int .i64 ((q.at' : Int) + q.n)) := by rw [Lib.cell_of_heap bX4]; rfl
          have d4' : W4.cell? ⟨Bx, 4, none⟩ = some (.bool x.1.sp) := by rw [Lib.cell_of_heap bX4]; rfl
          have hcL4 := bL4.cell
          clear d0 d1 d2 d3 d4 k2 k3 z2 z3 p0 p1 p2 q0 q1 q2 hc hcC bP bR bX3
          gi_wp2_with (gi_at_builtin; refine wpListIn_append_own _ rfl _ _ 22 rfl w2.heap.size 49 i0 (.agg #[.int .i64 0, .string ⟨#[]⟩, .int .i64 0, .int .i64 0, .bool false]) 5 48 Try.underlying22 hi hz0 hz1 hz2 rfl (by decide) _ _ _ rfl (hrow4.alloc _) ⟨W4.heap.size, 0, none⟩ 1 1 [.int .i64 x.1.k, .string x.1.tx, .int .i64 p.at', .int .i64 ((q.at' : Int) + q.n), .bool x.1.sp] rfl rfl (cell5_new _ _ _ _ _ _ _) (by simp [Value.oneCell']) (by unfold maxLen; omega) (by omega) (by have := hB4.size; simp; omega) ?_; intro v' w5 hown' hgrow _; obtain ⟨g', cap', rfl⟩ := ownsRow_succ hown'; obtain ⟨hv1, hv2, hr2, hk2, hb2'⟩ := bL4.appended (by decide) hrow4 hB4.size (Nat.le_succ _) hown' hgrow; have hc1 := hv1.cell; have hf1 := hv1.frozen; have bC5 := box_app bC4 (by decide) hrow4 hgrow; have hLK := lastKept_app (Bn := w2.heap.size + 1 + 1) (by omega) (Nat.le_succ _) hKC4 hv0 hrow4 hown' hgrow)
          have hnews : ydCell (srcY cs x.1) = [.int .i64 x.1.k, .string x.1.tx, .int .i64 p.at', .int .i64 ((q.at' : Int) + q.n), .bool x.1.sp] := by
            unfold ydCell srcY
            rw [HPD.out, HQD.out]
            simp only [Int.natCast_add]
          refine ⟨(hKO.trans hk2).from _, hLK, ⟨⟨⟨⟨_, hv2, ?_, trivial⟩, bC5.other (by omega) _⟩, hB4.trans hb2'⟩, erAll_snoc hp her⟩⟩
          have h := hr2
          rw [List.length_append, List.length_singleton, srcP_snoc, hnews]
          exact h
    · have her0 : 0 < x.1.er := by omega
      have b2 : Boxed W w.heap.size 22 (.slice none 0 0) := (hB1.block _ (by omega)).trans c2
      have b3 : Boxed W (w.heap.size + 1) 27 (.int .i64 0) := (hB1.block _ (by omega)).trans c3
      have e2 := b2.cell
      have e3 := b3.cell
      have f2 := b2.frozen
      have f3 := b3.frozen
      gi_wp2
      obtain ⟨g2, g3⟩ := set2_cells b2 b3 (by omega) (.slice none 0 0) (.int .i64 x.1.er)
      refine ⟨((KeepsOthers.setCell _ _ _).trans (KeepsOthers.setCell _ _ _)).from _, ⟨x.1.er, ⟨g2, g3⟩, pre, x, rfl, her, hp, rfl⟩, ?_, rfl⟩
      have hB : Below w.heap.size w W := hBw2.trans (hB1.mono (by omega))
      exact (hB.setCell (p := ⟨w.heap.size, 0, none⟩) (Nat.le_refl _) _).setCell (p := ⟨w.heap.size + 1, 0, none⟩) (by simp) _

/-- scan.Scan AT ANY TEXT. -/
theorem scan_any (s : ByteArray) (w : World) (hs : s.size ≤ maxLen) (hL : LibVar w) :
    Calls Try.prog 20 #[.string s] w fun e w' => (∃ v, e = .returned (.tuple #[v, .int .i64 (scanErr s)]) ∧ w'.ownsRow w.heap.size 49 5 v (scanOf s).length (ydCells (scanOf s))) ∧ Below w.heap.size w w' := by
  rcases check_cases s.data.toList with ⟨h, hl⟩ | h | h
  · exact scan_ok s w hs hl h hL
  all_goals
    have he : scanErr s = checkN s.data.toList := by unfold scanErr; rw [if_neg (by rw [h]; decide)]
    have ho : scanOf s = [] := by unfold scanOf; rw [if_neg (by rw [he, h]; decide)]
    rw [ho, he, h]
    refine (scan_bad s w hs _ h (by decide)).mono ?_
    rintro e w' ⟨rfl, hb⟩
    exact ⟨⟨_, rfl, World.ownsRow_nil _ _ _ _⟩, hb⟩

end Go.Proofs.Ytaodjipnffgihaa
