/- lines.linesOf: the iterator over a list's lines. -/
import Derived.RangeFuncNested
import Derived.Test.YtpomcdolpmbhdaaRowsS
import Derived.Test.YtpomcdolpmbhdaaIter
import Derived.Test.YtpomcdolpmbhdaaSaysR
namespace Go.Proofs.Ytpomcdolpmbhdaa
open Go Go.RowKit

variable {F : Fence} {n : Nat} {P : Program}

/-- The promise of an iterator that tells, at each thing, what it knows of the things ahead of it. -/
def SeqStopsP {α : Type} (F : Fence) (n : Nat) (P : Program) (g : Nat) (lb : Array Value) (encs : α → Array Value) (Kp : World → World → Prop) (S Sp : List α → Prop) (Pm : List α → α → Prop) (w : World) : Prop :=
  ∀ (l : Nat) (J Jx : List α → World → Prop) (W : World), Below w.heap.size w W → AbidesFrom W.heap.size J → AbidesFrom W.heap.size Jx →
    (∀ pre x W1, J pre W1 → Pm pre x → YieldAt F (n - 1) P l (encs x) W1 fun e W' =>
      (e = .returned (.bool true) ∧ J (pre ++ [x]) W' ∧ Kp W1 W') ∨ (e = .returned (.bool false) ∧ Jx (pre ++ [x]) W')) →
    J [] W →
    CallsIn F n P g (#[.func (.yield l) #[] #[]] ++ lb) W fun e W' => (∃ v, e = .returned v) ∧ ((∃ xs, S xs ∧ J xs W') ∨ (∃ pre, Sp pre ∧ Jx pre W'))

/-- How the body of such a round may be left: Y is the world of the handing over. -/
def roundPostP {α : Type} (B : Nat) (Kp : World → World → Prop) (I : List α → World → Prop) (Ix : Code → List α → World → Prop) (xs : List α) (Y W : World) : Exit → Act → World → Prop :=
  ownPostG B (fun _ W' => Kp Y W') I Ix xs W

theorem wpIn_range_told {α : Type} {g : Operand} {ps : Array Tmp} {assign body : Code} {Q : Exit → Act → World → Prop} {a : Act} {w : World}
    (hround : F.round = none) (hn : 1 ≤ n) {gf : Nat} {lb : Array Value} (hg : a.eval g = .func (.func gf) #[] lb) (hF : F.fn gf) (hent : ∀ args w, (callFunc gf args).run P w = .ok (.enter gf args) w)
    {encs : α → Array Value} {Kp : World → World → Prop} {S Sp : List α → Prop} {Pm : List α → α → Prop} {w0 : World} (hseq : SeqStopsP F (n - 1) P gf lb encs Kp S Sp Pm w0)
    (hKp : ∀ (Y W : World) (l : Nat) (o o' : Obj), w.heap.size ≤ l → W.heap[l]? = some o → o.isCells = false → Kp Y W → Kp Y (W.putObj l o')) (hb0 : Below w0.heap.size w0 w) (hps : ∀ x, (encs x).size = ps.size)
    (I : List α → World → Prop) (Ix : Code → List α → World → Prop) (hI : OwnFrom w.heap.size I) (hIx : ∀ c, OwnFrom w.heap.size (Ix c)) (h0 : I [] w)
    (Ax : α → World → Act → World → Prop) (hAx : ∀ x Y a', OwnFrom w.heap.size (fun (_ : Unit) W => Ax x Y a' W))
    (hassign : ∀ (l : Nat) (pre : List α) (x : α) (Y : World) (K : Act → World → Prop), I pre Y → (∀ a' W', KeepsFrom w.heap.size Y W' → I pre W' → Ax x Y a' W' → K a' W') →
      assign.wpIn (F.inRound l) (n - 1 - 1) P (Exit.then K (fun _ _ _ => False)) { tmps := (ps.zip (encs x)).foldl (fun t (p, v) => t.setIfInBounds p v) a.tmps, defers := [] } Y)
    (hbody : ∀ (l : Nat) (pre : List α) (x : α) (Y : World) (a' : Act) (W : World), w.heap.size ≤ l → (∃ r, W.heap[l]? = some (.loop r)) → I pre W → Ax x Y a' W → Pm pre x →
      body.wpIn (F.inRound l) (n - 1 - 1) P (roundPostP w.heap.size Kp I Ix (pre ++ [x]) Y W) a' W)
    (hdone : ∀ (D : Nat) (xs : List α) (W : World), w.heap.size ≤ D → S xs → I xs W → W.heap[D]? = some (.deferred (some [])) → Q .normal { a with defers := { target := .collected D, args := #[] } :: a.defers } W)
    (hstop : ∀ (D : Nat) (c : Code) (pre : List α) (W : World), w.heap.size ≤ D → Sp pre → Ix c pre W → W.heap[D]? = some (.deferred (some [])) → c.wpIn F n P Q { a with defers := { target := .collected D, args := #[] } :: a.defers } W) :
    (Code.rangeFunc g ps assign body).wpIn F n P Q a w := by
  refine wpIn_rangeFunc fun fn hfn => ?_
  rw [hround]
  -- the two blocks that the loop lays: D for what is deferred, D + 1 for its record
  let D := w.heap.size
  have hD : D = w.heap.size := rfl
  obtain ⟨rec, hrec⟩ : ∃ rec : LoopState → Option Code → Loop, rec = fun st pe => { state := st, pending := pe, fn, tmps := a.tmps, params := ps, assign, body, defers := D } := ⟨_, rfl⟩
  obtain ⟨V, hV⟩ : ∃ V, (w.alloc (.deferred (some []))).alloc (.loop (rec .ready none)) = V := ⟨_, rfl⟩
  have lV : V.heap[D + 1]? = some (.loop (rec .ready none)) := by
    have := World.alloc_heap_new (w.alloc (.deferred (some []))) (.loop (rec .ready none))
    rw [World.size_alloc] at this
    rw [← hV]; exact this
  have dV : V.heap[D]? = some (.deferred (some [])) := by
    rw [← hV]; exact (Below.heap_alloc _ _ _ (by simp [hD])).trans (World.alloc_heap_new w _)
  have sV : V.heap.size = D + 2 := by rw [← hV]; simp [hD]
  have bV : Below w0.heap.size w0 V := by
    rw [← hV]; exact hb0.trans ((((Below.refl _ w).alloc (Nat.le_refl _) _).alloc (by simp) _).mono hb0.size)
  have iV : I [] V := by rw [← hV]; exact hI.alloc _ (hI.alloc _ h0)
  -- an abiding thing and the two blocks, behind a growth that the iterator may make
  have keep : ∀ (A B : World) (row : Option Nat), A.grownBy B row → (∀ r, row = some r → V.heap.size ≤ r ∧ ∃ o : Obj, A.heap[r]? = some o ∧ o.isWalk = true) →
      (∀ r, row = some r → w.heap.size ≤ r ∧ ∃ o : Obj, A.heap[r]? = some o ∧ o.isCells = false) := fun A B row _ hr r e => by
    obtain ⟨h1, o, h2, h3⟩ := hr r e
    exact ⟨by omega, o, h2, Obj.not_cells_of_walk h3⟩
  refine ⟨D + 1, [{ target := .collected D, args := #[] }], V, { target := .fn (.func gf) lb, args := #[.func (.yield (D + 1)) #[] #[]] }, V, gf, #[.func (.yield (D + 1)) #[] #[]] ++ lb, V, ?_, ?_, ?_, ?_, fun _ => hn, ?_⟩
  · rw [← hV, hrec]; exact run_enterLoop_outer _ _ _ _ _
  · simp only [resolve, hg]
    simp [go_sem]
  · intro f' hf'
    simp [Target.leads] at hf'
    subst hf'
    exact hF
  · simp [invoke, go_sem, hent]
  refine (hseq (D + 1)
    (fun pre W => I pre W ∧ W.heap[D + 1]? = some (.loop (rec .ready none)) ∧ W.heap[D]? = some (.deferred (some [])))
    (fun pre W => ∃ c, Ix c pre W ∧ W.heap[D + 1]? = some (.loop (rec .done (some c))) ∧ W.heap[D]? = some (.deferred (some []))) V bV
    (fun s A B row hs hg' hr => ⟨hI s A B row hs.1 hg' (keep A B row hg' hr), (grownBy_keeps hg' (fun r e => (hr r e).2) hs.2.1 rfl).trans hs.2.1, (grownBy_keeps hg' (fun r e => (hr r e).2) hs.2.2 rfl).trans hs.2.2⟩)
    (fun s A B row hs hg' hr => by
      obtain ⟨c, h1, h2, h3⟩ := hs
      exact ⟨c, hIx c s A B row h1 hg' (keep A B row hg' hr), (grownBy_keeps hg' (fun r e => (hr r e).2) h2 rfl).trans h2, (grownBy_keeps hg' (fun r e => (hr r e).2) h3 rfl).trans h3⟩)
    ?round ⟨iV, lV, dV⟩).mono ?behind
  case behind =>
    rintro e W2 ⟨⟨v, rfl⟩, ⟨xs, hS, hi, hl, hk⟩ | ⟨pre, hSp, c, hi, hl, hk⟩⟩
    · have hr := run_endLoop (P := P) hl (by rw [hrec]; simp)
      rw [hrec] at hr
      exact ⟨none, _, hr, hdone D xs _ (Nat.le_refl _) hS (hI.putObj _ hi (by omega) hl rfl) ((World.putObj_heap_other (by omega)).trans hk)⟩
    · have hr := run_endLoop (P := P) hl (by rw [hrec]; simp)
      rw [hrec] at hr
      exact ⟨some c, _, hr, hstop D c pre _ (Nat.le_refl _) hSp ((hIx c).putObj _ hi (by omega) hl rfl) ((World.putObj_heap_other (by omega)).trans hk)⟩
  case round =>
    rintro pre x Y ⟨iY, lY, dY⟩ hlen
    have hy := run_yield (P := P) (args := encs x) lY (by rw [hrec]; exact hps x)
    rw [hrec] at hy
    refine ⟨fn, _, assign, body, hy, roundIn_of_wpIn hfn (hassign _ pre x Y _ iY ?_)⟩
    intro a' A hkA iA axA
    have lA := hkA.same _ _ (by omega) lY rfl
    have dA := hkA.same _ _ (Nat.le_refl _) dY rfl
    have sA : D + 1 < A.heap.size := (Array.getElem?_eq_some_iff.1 lA).1
    refine ⟨_, run_beginRound lA (by rw [hrec]), ?_⟩
    obtain ⟨Bz, hBz⟩ : ∃ Bz, A.putObj (D + 1) (.loop { rec .ready none with state := .busy }) = Bz := ⟨_, rfl⟩
    have lB : Bz.heap[D + 1]? = some (.loop { rec .ready none with state := .busy }) := by rw [← hBz]; exact World.putObj_heap_same sA
    have dB : Bz.heap[D]? = some (.deferred (some [])) := by rw [← hBz]; exact (World.putObj_heap_other (by omega)).trans dA
    have iB : I pre Bz := by rw [← hBz]; exact hI.putObj _ iA (by omega) lA rfl
    have axB : Ax x Y a' Bz := by rw [← hBz]; exact (hAx x Y a').putObj (s := ()) _ axA (by omega) lA rfl
    rw [hBz]
    refine wpIn_mono (hbody _ pre x Y a' Bz (by omega) ⟨_, lB⟩ iB axB hlen) ?_
    have fin : ∀ (jump : Option Code) (C : World), KeepsFrom w.heap.size Bz C →
        (Instr.endRound (D + 1) jump).run P C = .ok (.bool jump.isNone) (C.putObj (D + 1) (.loop (rec (if jump.isNone then .ready else .done) jump))) ∧
        C.heap[D + 1]? = some (.loop { rec .ready none with state := .busy }) ∧
        (C.putObj (D + 1) (.loop (rec (if jump.isNone then .ready else .done) jump))).heap[D + 1]? = some (.loop (rec (if jump.isNone then .ready else .done) jump)) ∧
        (C.putObj (D + 1) (.loop (rec (if jump.isNone then .ready else .done) jump))).heap[D]? = some (.deferred (some [])) := fun jump C hC => by
      have lC := hC.same _ _ (by omega) lB rfl
      have hr := run_endRound (P := P) jump lC
      rw [hrec] at hr lC ⊢
      exact ⟨hr, lC, World.putObj_heap_same (Array.getElem?_eq_some_iff.1 lC).1, (World.putObj_heap_other (by omega)).trans (hC.same _ _ (Nat.le_refl _) dB rfl)⟩
    rintro e a3 C hp
    have left : ∀ c, KeepsFrom w.heap.size Bz C → Ix c (pre ++ [x]) C → ∃ c', Ix c' (pre ++ [x]) (C.putObj (D + 1) (.loop (rec .done (some c)))) ∧ (C.putObj (D + 1) (.loop (rec .done (some c)))).heap[D + 1]? = some (.loop (rec .done (some c'))) ∧ (C.putObj (D + 1) (.loop (rec .done (some c)))).heap[D]? = some (.deferred (some [])) := fun c hk hi => by
      obtain ⟨_, h2, h3, h4⟩ := fin (some c) C hk
      exact ⟨c, (hIx _).putObj _ hi (by omega) h2 rfl, h3, h4⟩
    cases e with
    | normal =>
      obtain ⟨hk, hkp, hi⟩ := hp
      obtain ⟨hr, h2, h3, h4⟩ := fin none C hk
      exact ⟨_, _, hr, .inl ⟨rfl, ⟨hI.putObj _ hi (by omega) h2 rfl, h3, h4⟩, hKp _ _ _ _ _ (by omega) h2 rfl hkp⟩⟩
    | ret => exact ⟨_, _, (fin (some .ret) C hp.1).1, .inr ⟨rfl, left .ret hp.1 hp.2⟩⟩
    | exit id => exact ⟨_, _, (fin (some (.exit id)) C hp.1).1, .inr ⟨rfl, left (.exit id) hp.1 hp.2⟩⟩
    | goto t => exact ⟨_, _, (fin (some (.goto t)) C hp.1).1, .inr ⟨rfl, left (.goto t) hp.1 hp.2⟩⟩
    | panic ch => exact hp.elim
    | outgrown => exact hp.elim

end Go.Proofs.Ytpomcdolpmbhdaa

namespace Go.Proofs.Ytpomcdolpmbhdaa

/-- A line: where it begins, its tokens. -/
structure Ln where
  f : Nat
  l : List Tz
def lnsFrom : Nat → List (List Tz) → List Ln
  | _, [] => []
  | f, l :: ls => ⟨f, l⟩ :: lnsFrom (f + l.length) ls
def lnsAll (ts : List Tz) : List Ln := lnsFrom 0 (linesS ts)
abbrev Lt (ts : List Tz) := { x : Ln // x ∈ lnsAll ts }
def lts (ts : List Tz) : List (Lt ts) := (lnsAll ts).attach
theorem lts_val (ts : List Tz) : (lts ts).map (·.1) = lnsAll ts := by unfold lts; exact List.attach_map_subtype_val _
theorem lnsFrom_val : ∀ (f : Nat) (ls : List (List Tz)), (lnsFrom f ls).map (·.l) = ls
  | _, [] => rfl
  | f, l :: ls => by rw [lnsFrom, List.map_cons, lnsFrom_val]
/-- A line stands where it begins, and is not empty. -/
theorem lnsFrom_in : ∀ (ls : List (List Tz)) (f : Nat) (pre : List Tz), pre.length = f → (∀ l ∈ ls, l ≠ []) → ∀ x ∈ lnsFrom f ls, 0 < x.l.length ∧ ((pre ++ ls.flatten).drop x.f).take x.l.length = x.l ∧ x.f + x.l.length ≤ (pre ++ ls.flatten).length
  | [], _, _, _, _, x, h => by cases h
  | l :: ls, f, pre, hp, hn, x, h => by
    rw [lnsFrom] at h
    rcases List.mem_cons.1 h with rfl | h
    · refine ⟨List.length_pos_iff.2 (hn l List.mem_cons_self), ?_, ?_⟩
      · rw [List.drop_left' hp, List.flatten_cons, List.take_left' rfl]
      · rw [List.length_append, List.flatten_cons, List.length_append]; simp only; omega
    · have := lnsFrom_in ls (f + l.length) (pre ++ l) (by rw [List.length_append, hp]) (fun q hq => hn q (List.mem_cons_of_mem _ hq)) x h
      rw [List.append_assoc, ← List.flatten_cons] at this
      exact this
theorem linesF_flat : ∀ ts : List Tz, (linesS ts).flatten = ts
  | [] => rfl
  | t :: r => by
    have ih := linesF_flat r
    rw [linesS]
    split
    · rw [List.flatten_cons, ih]; rfl
    · cases h : linesS r with
      | nil => rw [h] at ih; rw [← ih]; rfl
      | cons l ls => rw [h] at ih; rw [← ih]; rfl
theorem linesF_ne : ∀ (ts : List Tz), ∀ l ∈ linesS ts, l ≠ []
  | [], l, h => by cases h
  | t :: r, l, h => by
    have ih := linesF_ne r
    rw [linesS] at h
    split at h
    · rcases List.mem_cons.1 h with rfl | h
      · simp
      · exact ih l h
    · cases hr : linesS r with
      | nil =>
        rw [hr] at h
        obtain rfl : l = [t] := by simpa using h
        simp
      | cons a ls =>
        rw [hr] at h ih
        rcases List.mem_cons.1 h with rfl | h
        · simp
        · exact ih l (List.mem_cons_of_mem _ h)
theorem ln_in {ts : List Tz} (x : Lt ts) : 0 < x.1.l.length ∧ (ts.drop x.1.f).take x.1.l.length = x.1.l ∧ x.1.f + x.1.l.length ≤ ts.length := by
  have h := lnsFrom_in (linesS ts) 0 [] rfl (linesF_ne ts) x.1 x.2
  rw [List.nil_append, linesF_flat] at h
  exact h

/-- How far the iterator is: the lines handed over, those to come; a line has begun at f. -/
structure LnAt (ts : List Tz) (f k : Nat) (pre rest : List (Lt ts)) : Prop where
  fk : f ≤ k
  le : k ≤ ts.length
  all : lts ts = pre ++ rest
  nl : noNl ((ts.drop f).take (k - f))
  eq : rest.map (·.1) = lnsFrom f (linesS (ts.drop f))
theorem LnAt.start (ts : List Tz) : LnAt ts 0 0 [] (lts ts) := ⟨Nat.le_refl _, Nat.zero_le _, rfl, (fun t h => by simp at h), lts_val ts⟩
theorem seg_snoc {ts : List Tz} {f k : Nat} {t : Tz} (hf : f ≤ k) (ht : ts[k]? = some t) : (ts.drop f).take (k + 1 - f) = (ts.drop f).take (k - f) ++ [t] := by
  rw [show k + 1 - f = k - f + 1 by omega, List.take_add_one, List.getElem?_drop, show f + (k - f) = k by omega, ht]; rfl
theorem LnAt.skip {ts : List Tz} {f k : Nat} {pre rest : List (Lt ts)} {t : Tz} (h : LnAt ts f k pre rest) (ht : ts[k]? = some t) (h9 : (t.k == 9) = false) : LnAt ts f (k + 1) pre rest := by
  have hlt := (List.getElem?_eq_some_iff.1 ht).1
  refine ⟨Nat.le_succ_of_le h.fk, hlt, h.all, fun u hu => ?_, h.eq⟩
  rw [seg_snoc h.fk ht] at hu
  rcases List.mem_append.1 hu with hu | hu
  · exact h.nl u hu
  · rw [List.mem_singleton] at hu; rw [hu]; exact h9
theorem LnAt.line {ts : List Tz} {f k : Nat} {pre rest : List (Lt ts)} {t : Tz} (h : LnAt ts f k pre rest) (ht : ts[k]? = some t) (h9 : (t.k == 9) = true) :
    ∃ (x : Lt ts) (r : List (Lt ts)), rest = x :: r ∧ x.1.f = f ∧ x.1.l.length = k + 1 - f ∧ LnAt ts (k + 1) (k + 1) (pre ++ [x]) r := by
  have hlt := (List.getElem?_eq_some_iff.1 ht).1
  have hd : ts.drop f = (ts.drop f).take (k - f) ++ t :: ts.drop (k + 1) := by
    have h1 := (List.take_append_drop (k - f) (ts.drop f)).symm
    rw [List.drop_drop, show f + (k - f) = k by have := h.fk; omega] at h1
    rw [List.drop_eq_getElem_cons hlt, (List.getElem?_eq_some_iff.1 ht).2] at h1
    exact h1
  have heq := h.eq
  rw [hd, linesS_cut _ h.nl h9, lnsFrom] at heq
  cases rest with
  | nil => simp at heq
  | cons x r =>
    rw [List.map_cons, List.cons.injEq] at heq
    have hlen : ((ts.drop f).take (k - f) ++ [t]).length = k + 1 - f := by
      have := h.fk
      rw [List.length_append, List.length_take, List.length_drop, List.length_singleton]; omega
    refine ⟨x, r, rfl, by rw [heq.1], by rw [heq.1]; exact hlen, Nat.le_refl _, hlt, by rw [h.all]; simp, (fun u hu => by simp at hu), ?_⟩
    rw [heq.2, hlen, show f + (k + 1 - f) = k + 1 by have := h.fk; omega]
theorem LnAt.tail {ts : List Tz} {f : Nat} {pre rest : List (Lt ts)} (h : LnAt ts f ts.length pre rest) (hf : f < ts.length) :
    ∃ x : Lt ts, rest = [x] ∧ x.1.f = f ∧ x.1.l.length = ts.length - f ∧ lts ts = pre ++ [x] := by
  have hnl := h.nl
  rw [List.take_of_length_le (by rw [List.length_drop]; exact Nat.le_refl _)] at hnl
  have heq := h.eq
  rw [linesS_rest hnl (by intro e; have := congrArg List.length e; rw [List.length_drop] at this; simp at this; omega)] at heq
  rw [lnsFrom, lnsFrom] at heq
  cases rest with
  | nil => simp at heq
  | cons x r =>
    rw [List.map_cons, List.cons.injEq] at heq
    obtain ⟨h1, h2⟩ := heq
    obtain rfl : r = [] := List.map_eq_nil_iff.1 h2
    exact ⟨x, rfl, by rw [h1], by rw [h1]; simp, h.all⟩
theorem LnAt.none {ts : List Tz} {f : Nat} {pre rest : List (Lt ts)} (h : LnAt ts f ts.length pre rest) (hf : ¬ f < ts.length) : lts ts = pre := by
  have heq := h.eq
  rw [List.drop_eq_nil_of_le (by omega)] at heq
  rw [h.all]
  cases rest with
  | nil => simp
  | cons x r => simp [linesS, lnsFrom] at heq

/-- What the caller's rounds know: the things ahead. -/
def LnPm (ts : List Tz) (pre : List (Lt ts)) (x : Lt ts) : Prop := (pre ++ [x]) <+: lts ts
/-- The rows of the lines so far. -/
def rowsP {ts : List Tz} (pre : List (Lt ts)) : List Rz := (pre.map fun x => x.1.l).foldl addLine []
theorem rowsP_snoc {ts : List Tz} (pre : List (Lt ts)) (x : Lt ts) : rowsP (pre ++ [x]) = addLine (rowsP pre) x.1.l := by
  unfold rowsP; rw [List.map_append, List.foldl_append]; rfl
theorem rowsP_all (ts : List Tz) : rowsP (lts ts) = rowsS ts := by
  unfold rowsP rowsS
  rw [show (lts ts).map (fun x => x.1.l) = ((lts ts).map (·.1)).map (·.l) by rw [List.map_map]; rfl, lts_val]
  unfold lnsAll
  rw [lnsFrom_val]
theorem toksN_lines : ∀ (ls : List (List Tz)) (o : List Rz), toksN (ls.foldl addLine o) = toksN o + ls.flatten.length
  | [], o => by simp
  | l :: ls, o => by
    rw [List.foldl_cons, toksN_lines ls, List.flatten_cons, List.length_append]
    unfold addLine
    rw [addRow_toks]
    unfold rowOf
    simp only
    omega
theorem lines_len : ∀ (ls : List (List Tz)) (o : List Rz), (ls.foldl addLine o).length ≤ o.length + ls.length
  | [], o => Nat.le_refl _
  | l :: ls, o => by
    rw [List.foldl_cons]
    refine Nat.le_trans (lines_len ls _) ?_
    have := addRow_len o (rowOf l)
    unfold addLine
    rw [List.length_cons]; omega
/-- The rows so far and the line at hand hold no more tokens than the list. -/
theorem rowsP_fits {ts : List Tz} {pre : List (Lt ts)} {x : Lt ts} (h : LnPm ts pre x) : toksN (rowsP pre) + x.1.l.length ≤ ts.length ∧ (rowsP pre).length < ts.length := by
  obtain ⟨r, hr⟩ := h
  have hf := linesF_flat ts
  rw [show linesS ts = (lts ts).map (fun x => x.1.l) by
    rw [show (lts ts).map (fun x => x.1.l) = ((lts ts).map (·.1)).map (·.l) by rw [List.map_map]; rfl, lts_val]
    unfold lnsAll; rw [lnsFrom_val], ← hr] at hf
  have hl := congrArg List.length hf
  simp only [List.map_append, List.map_cons, List.map_nil, List.flatten_append, List.flatten_cons, List.flatten_nil, List.append_nil, List.length_append] at hl
  have h1 := toksN_lines (pre.map fun x => x.1.l) []
  have h2 := lines_len (pre.map fun x => x.1.l) []
  have h3 : (pre.map fun x => x.1.l).length ≤ (pre.map fun x => x.1.l).flatten.length := by
    have : ∀ (q : List (Lt ts)), (q.map fun x => x.1.l).length ≤ (q.map fun x => x.1.l).flatten.length := by
      intro q
      induction q with
      | nil => exact Nat.le_refl _
      | cons y q ih =>
        have := (ln_in y).1
        rw [List.map_cons, List.flatten_cons, List.length_append, List.length_cons]; omega
    exact this pre
  have h4 := (ln_in x).1
  have h0 : toksN [] = 0 := rfl
  have h00 : ([] : List Rz).length = 0 := rfl
  unfold rowsP
  omega

end Go.Proofs.Ytpomcdolpmbhdaa

namespace Go.Proofs.Ytpomcdolpmbhdaa
open Go.RowKit Go.Shelf

attribute [local go_sem] Oper.semAt_some

/-- What a round keeps for the iterator: its box, and all that was there ahead of the call. -/
structure LnKept (Bn B : Nat) (Y W : World) : Prop where
  size : Y.heap.size ≤ W.heap.size
  box : ∀ v, Boxed Y Bn 22 v → Boxed W Bn 22 v
  low : ∀ k, k < B → W.heap[k]? = Y.heap[k]?
structure LnEnv (Bn B : Nat) (v : Value) (W0 W : World) : Prop where
  lt : B ≤ W.heap.size
  box : Boxed W Bn 22 v
  low : ∀ k, k < B → W.heap[k]? = W0.heap[k]?
theorem LnEnv.below {Bn B : Nat} {v : Value} {W0 W W' : World} (h : LnEnv Bn B v W0 W) (hb : Below W.heap.size W W') : LnEnv Bn B v W0 W' :=
  ⟨Nat.le_trans h.lt hb.size, (hb.block Bn h.box.lt).trans h.box, fun k hk => (hb.block k (Nat.lt_of_lt_of_le hk h.lt)).trans (h.low k hk)⟩
theorem LnEnv.kept {Bn B : Nat} {v : Value} {W0 Y W : World} (h : LnEnv Bn B v W0 Y) (hk : LnKept Bn B Y W) : LnEnv Bn B v W0 W :=
  ⟨Nat.le_trans h.lt hk.size, hk.box _ h.box, fun k hk' => (hk.low k hk').trans (h.low k hk')⟩
theorem TzAt.low {B b o : Nat} {W0 W : World} {ts : List Tz} (h : TzAt W0 b o ts) (hb : b < B) (hl : ∀ k, k < B → W.heap[k]? = W0.heap[k]?) : TzAt W b o ts := fun i t ht => by
  have hc : ∀ q, W.cell? ⟨b, q, none⟩ = W0.cell? ⟨b, q, none⟩ := fun q => World.cell?_of_block (a := ⟨b, q, none⟩) (hl b hb)
  rw [hc, hc, hc, hc, hc]
  exact h i t ht

set_option maxHeartbeats 400000 in
theorem linesOf_any (a : Option Addr) (n cap : Nat) (w : World) :
    Calls Try.prog 26 #[.slice a n cap] w fun e w' => e = .returned (.func (.func 41) #[] #[.pointer (some ⟨w.heap.size, 0, none⟩)]) ∧ w' = w.alloc (.cells #[.slice a n cap] 22) := by
  go_enter Try.func26, Try.ntmps26
  go_wp2
  go_ret
  exact ⟨rfl, rfl⟩

def encL {ts : List Tz} (b o cap : Nat) (x : Lt ts) : Array Value := #[.slice (some ⟨b, o + x.1.f * 5, none⟩) x.1.l.length (cap - x.1.f)]

set_option maxRecDepth 100000 in
set_option maxHeartbeats 2000000 in
/-- The iterator: each line in order, as long as a round says 'go on'. -/
theorem lines1_in (n : Nat) (hn : 1 ≤ n) (ts : List Tz) (m cap : Nat) (a : Option Addr) (b o : Nat) (hm : ts.length = m) (hmc : m ≤ cap) (hm2 : m * 48 ≤ 140737488355328) (W0 : World) (B : Nat) (ha : 0 < m → a = some ⟨b, o, none⟩ ∧ b < B ∧ TzAt W0 b o ts)
    (l Bn : Nat) (J Jx : List (Lt ts) → World → Prop) (B0 : Nat) (hJa : AbidesFrom B0 J)
    (hY : ∀ pre (x : Lt ts) W, J pre W → LnPm ts pre x → YieldAt Fence.wide (n - 1) Try.prog l (encL b o cap x) W fun e W' =>
      (e = .returned (.bool true) ∧ J (pre ++ [x]) W' ∧ LnKept Bn B W W') ∨ (e = .returned (.bool false) ∧ Jx (pre ++ [x]) W'))
    (W : World) (hE : LnEnv Bn B (.slice a m cap) W0 W) (h0 : J [] W) :
    CallsIn Fence.wide n Try.prog 41 #[.func (.yield l) #[] #[], .pointer (some ⟨Bn, 0, none⟩)] W fun e W' => (∃ v, e = .returned v) ∧
      ((∃ ys, ys = lts ts ∧ J ys W') ∨ (∃ pre, pre <+: lts ts ∧ Jx pre W')) := by
  have HM := Lib.hid hm
  have HA0 := Lib.hid ha
  clear ha hm
  refine callsIn_of_wp Try.func41 rfl trivial ?_ rfl
  simp only [Try.ntmps41, List.size_toArray, List.length_cons, List.length_nil, Nat.reduceAdd, Nat.reduceSub, Array.replicate_succ, Array.replicate_zero, List.push_toArray, List.append_toArray, List.nil_append, List.cons_append]
  have hc0 := hE.box.cell
  gi_wp2
  clear hc0
  gi_loopw [3, 8] (fun fr i wr => ∃ (pre rest : List (Lt ts)) (f k : Nat), fr = .int .i64 f ∧ i = .int .i64 k ∧ Hid (LnAt ts f k pre rest) ∧ f ≤ k ∧ k ≤ m ∧ J pre wr ∧ LnEnv Bn B (.slice a m cap) W0 wr)
    (fun _ i _ => m - (intOf i).toNat)
  case atStart =>
    exact ⟨[], lts ts, 0, 0, rfl, rfl, Lib.hid (LnAt.start ts), Nat.le_refl _, Nat.zero_le _, h0, hE⟩
  case round =>
    obtain ⟨pre, rest, f, k, rfl, rfl, HA, hfk, hkm, hJs, hEr⟩ := hrel
    have hc := hEr.box.cell
    by_cases hlt : k < m
    · obtain ⟨t, ht⟩ : ∃ t, ts[k]? = some t := ⟨_, List.getElem?_eq_getElem (by rw [HM.out]; exact hlt)⟩
      obtain ⟨rfl, hbB, hz⟩ := HA0.out (by omega)
      obtain ⟨c0, c1, c2, c3, c4⟩ := (hz.low hbB hEr.low) k t ht
      have j1 : (k : Int) < (m : Int) := by omega
      have j0 : (0 : Int) ≤ (k : Int) := by omega
      have hbl := below1 wr (.cells #[.int .i64 t.k, .string t.tx, .int .i64 t.a, .int .i64 t.e, .bool t.sp] 31)
      cases h9 : (t.k == 9)
      · have HA2 := Lib.hid (HA.out.skip ht h9)
        have k9 : (t.k != 9) = true := by simp only [bne, h9]; rfl
        clear hz ht HA
        gi_wp2
        go_roundw
        case rel => exact ⟨pre, rest, f, k + 1, rfl, by go_num, HA2, by omega, by omega, abides_below hJa hJs hbl, hEr.below hbl⟩
        case measure => simp [intOf]; omega
      · obtain ⟨x, r, hrest, hxf, hxl, hA2⟩ := HA.out.line ht h9
        have hPm : LnPm ts pre x := ⟨r, by rw [HA.out.all, hrest]; simp⟩
        have HA2 := Lib.hid hA2
        have k9 : (t.k != 9) = false := by simp only [bne, h9]; rfl
        have hE1 := hEr.below hbl
        have hc1 := hE1.box.cell
        obtain ⟨fn, tmps, assign, body, hy, hR⟩ := hY pre x _ (abides_below hJa hJs hbl) hPm
        have hcell : encL b o cap x = #[.slice (some ⟨b, o + f * 5, none⟩) (k + 1 - f) (cap - f)] := by unfold encL; rw [hxf, hxl]
        rw [hcell] at hy
        have i0 : (0 : Int) ≤ (f : Int) := by omega
        have i1 : (f : Int) ≤ (k : Int) + 1 := by omega
        have i2 : (k : Int) + 1 ≤ (cap : Int) := by omega
        clear hz ht HA hcell hxf hxl hrest hA2 hPm
        gi_wp2_with fail
        refine hR.mono ?_
        rintro e W3 (⟨rfl, hJ3, hk3⟩ | ⟨rfl, hJx3⟩)
        · have hE3 := hE1.kept hk3
          have HE3 := Lib.hid hE3
          clear hE3 hk3 hc hc1 hE1
          gi_wp2
          go_roundw
          case rel => exact ⟨pre ++ [x], r, k + 1, k + 1, by go_num, by go_num, HA2, Nat.le_refl _, by omega, hJ3, HE3.out⟩
          case measure => simp [intOf]; omega
        · gi_wp2
          refine bodyPost_ret (results_none rfl _ _ _) rfl ?_
          exact ⟨⟨_, rfl⟩, .inr ⟨pre ++ [x], ⟨r, by rw [HA2.out.all]⟩, hJx3⟩⟩
    · obtain rfl : k = m := by omega
      by_cases hf : f < k
      · have hAk : LnAt ts f ts.length pre rest := by have := HA.out; rw [← HM.out] at this; exact this
        obtain ⟨x, hrest, hxf, hxl, hall⟩ := hAk.tail (by rw [HM.out]; exact hf)
        obtain ⟨rfl, hbB, -⟩ := HA0.out (by omega)
        have hPm : LnPm ts pre x := by unfold LnPm; rw [hall]; exact List.prefix_rfl
        have HALL := Lib.hid hall
        obtain ⟨fn, tmps, assign, body, hy, hR⟩ := hY pre x _ hJs hPm
        have hcell : encL b o cap x = #[.slice (some ⟨b, o + f * 5, none⟩) (k - f) (cap - f)] := by unfold encL; rw [hxf, hxl, HM.out]
        rw [hcell] at hy
        have j1 : ¬ (k : Int) < (k : Int) := by omega
        have i0 : (0 : Int) ≤ (f : Int) := by omega
        have i1 : (f : Int) < (k : Int) := by omega
        have i2 : (f : Int) ≤ (k : Int) := by omega
        have i3 : ¬ cap = f := by omega
        clear hAk hcell hxf hxl hrest hall hPm HA
        gi_wp2_with fail
        refine hR.mono ?_
        rintro e W3 (⟨rfl, hJ3, -⟩ | ⟨rfl, hJx3⟩)
        · gi_wp2
          go_end0
          exact ⟨⟨_, rfl⟩, .inl ⟨_, HALL.out.symm, hJ3⟩⟩
        · gi_wp2
          go_end0
          exact ⟨⟨_, rfl⟩, .inr ⟨_, (by rw [HALL.out]; exact List.prefix_rfl), hJx3⟩⟩
      · have hall : lts ts = pre := by
          have := HA.out
          rw [← HM.out] at this
          exact this.none (by rw [HM.out]; omega)
        have HALL := Lib.hid hall
        have j1 : ¬ (k : Int) < (k : Int) := by omega
        have j2 : ¬ (f : Int) < (k : Int) := by omega
        clear hall HA
        gi_wp2
        go_end0
        exact ⟨⟨_, rfl⟩, .inl (by rw [HALL.out]; exact hJs)⟩

end Go.Proofs.Ytpomcdolpmbhdaa
