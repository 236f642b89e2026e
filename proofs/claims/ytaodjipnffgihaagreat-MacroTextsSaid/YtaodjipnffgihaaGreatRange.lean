/- A range over a function whose body pays what it must keep against the world in which the iterator has handed a thing over (not against the world behind the loop variable's making). -/
import Derived.RangeFuncNested
namespace Go.Proofs.YtaodjipnffgihaaGreat
open Go Go.RowKit

variable {F : Fence} {n : Nat} {P : Program}

/-- How the body of such a round may be left: Y is the world of the handing over. -/
def roundPost {α : Type} (B : Nat) (Kp : World → World → Prop) (I : List α → World → Prop) (Ix : Code → List α → World → Prop) (xs : List α) (Y W : World) : Exit → Act → World → Prop :=
  ownPostG B (fun _ W' => Kp Y W') I Ix xs W

theorem wpIn_range_paid {α : Type} {g : Operand} {ps : Array Tmp} {assign body : Code} {Q : Exit → Act → World → Prop} {a : Act} {w : World}
    (hround : F.round = none) (hn : 1 ≤ n) {gf : Nat} {lb : Array Value} (hg : a.eval g = .func (.func gf) #[] lb) (hF : F.fn gf) (hent : ∀ args w, (callFunc gf args).run P w = .ok (.enter gf args) w)
    {encs : α → Array Value} {Kp : World → World → Prop} {S Sp : List α → Prop} {N : Nat} {w0 : World} (hseq : SeqStopsK F (n - 1) P gf lb encs Kp S Sp N w0)
    (hKp : ∀ (Y W : World) (l : Nat) (o o' : Obj), w.heap.size ≤ l → W.heap[l]? = some o → o.isCells = false → Kp Y W → Kp Y (W.putObj l o')) (hb0 : Below w0.heap.size w0 w) (hps : ∀ x, (encs x).size = ps.size)
    (I : List α → World → Prop) (Ix : Code → List α → World → Prop) (hI : OwnFrom w.heap.size I) (hIx : ∀ c, OwnFrom w.heap.size (Ix c)) (h0 : I [] w)
    (Ax : α → World → Act → World → Prop) (hAx : ∀ x Y a', OwnFrom w.heap.size (fun (_ : Unit) W => Ax x Y a' W))
    (hassign : ∀ (l : Nat) (pre : List α) (x : α) (Y : World) (K : Act → World → Prop), I pre Y → (∀ a' W', KeepsFrom w.heap.size Y W' → I pre W' → Ax x Y a' W' → K a' W') →
      assign.wpIn (F.inRound l) (n - 1 - 1) P (Exit.then K (fun _ _ _ => False)) { tmps := (ps.zip (encs x)).foldl (fun t (p, v) => t.setIfInBounds p v) a.tmps, defers := [] } Y)
    (hbody : ∀ (l : Nat) (pre : List α) (x : α) (Y : World) (a' : Act) (W : World), w.heap.size ≤ l → (∃ r, W.heap[l]? = some (.loop r)) → I pre W → Ax x Y a' W → pre.length < N →
      body.wpIn (F.inRound l) (n - 1 - 1) P (roundPost w.heap.size Kp I Ix (pre ++ [x]) Y W) a' W)
    (hdone : ∀ (D : Nat) (xs : List α) (W : World), w.heap.size ≤ D → S xs → I xs W → W.heap[D]? = some (.deferred (some [])) → Q .normal { a with defers := { target := .collected D, args := #[] } :: a.defers } W)
    (hstop : ∀ (D : Nat) (c : Code) (pre : List α) (W : World), w.heap.size ≤ D → Sp pre → Ix c pre W → W.heap[D]? = some (.deferred (some [])) → c.wpIn F n P Q { a with defers := { target := .collected D, args := #[] } :: a.defers } W) :
    (Code.rangeFunc g ps assign body).wpIn F n P Q a w := by
  refine wpIn_rangeFunc fun fn hfn => ?_
  rw [hround]
  -- the two blocks that the loop lays: D for what is deferred, D + 1 for its record
  let D := w.heap.size
  have hD : D = w.heap.size := rfl
  obtain ⟨rec, hrec⟩ : ∃ rec : LoopState → Option Code → Loop, rec = fun st pe => { state := st, pending := pe, fn, tmps := a.tmps, params := ps, assign, body, defers := D } := ⟨_, rfl⟩
  obtain ⟨V, hV⟩ : ∃ V, (w.alloc (.deferred (some []))).alloc (.loop (rec .ready none)) = V := ⟨_, rfl⟩
  have lV : V.heap[D + 1]? = some (.loop (rec .ready none)) := by
    have := World.alloc_heap_new (w.alloc (.deferred (some []))) (.loop (rec .ready none))
    rw [World.size_alloc] at this
    rw [← hV]; exact this
  have dV : V.heap[D]? = some (.deferred (some [])) := by
    rw [← hV]; exact (Below.heap_alloc _ _ _ (by simp [hD])).trans (World.alloc_heap_new w _)
  have sV : V.heap.size = D + 2 := by rw [← hV]; simp [hD]
  have bV : Below w0.heap.size w0 V := by
    rw [← hV]; exact hb0.trans ((((Below.refl _ w).alloc (Nat.le_refl _) _).alloc (by simp) _).mono hb0.size)
  have iV : I [] V := by rw [← hV]; exact hI.alloc _ (hI.alloc _ h0)
  -- an abiding thing and the two blocks, behind a growth that the iterator may make
  have keep : ∀ (A B : World) (row : Option Nat), A.grownBy B row → (∀ r, row = some r → V.heap.size ≤ r ∧ ∃ o : Obj, A.heap[r]? = some o ∧ o.isWalk = true) →
      (∀ r, row = some r → w.heap.size ≤ r ∧ ∃ o : Obj, A.heap[r]? = some o ∧ o.isCells = false) := fun A B row _ hr r e => by
    obtain ⟨h1, o, h2, h3⟩ := hr r e
    exact ⟨by omega, o, h2, Obj.not_cells_of_walk h3⟩
  refine ⟨D + 1, [{ target := .collected D, args := #[] }], V, { target := .fn (.func gf) lb, args := #[.func (.yield (D + 1)) #[] #[]] }, V, gf, #[.func (.yield (D + 1)) #[] #[]] ++ lb, V, ?_, ?_, ?_, ?_, fun _ => hn, ?_⟩
  · rw [← hV, hrec]; exact run_enterLoop_outer _ _ _ _ _
  · simp only [resolve, hg]
    simp [go_sem]
  · intro f' hf'
    simp [Target.leads] at hf'
    subst hf'
    exact hF
  · simp [invoke, go_sem, hent]
  refine (hseq (D + 1)
    (fun pre W => I pre W ∧ W.heap[D + 1]? = some (.loop (rec .ready none)) ∧ W.heap[D]? = some (.deferred (some [])))
    (fun pre W => ∃ c, Ix c pre W ∧ W.heap[D + 1]? = some (.loop (rec .done (some c))) ∧ W.heap[D]? = some (.deferred (some []))) V bV
    (fun s A B row hs hg' hr => ⟨hI s A B row hs.1 hg' (keep A B row hg' hr), (grownBy_keeps hg' (fun r e => (hr r e).2) hs.2.1 rfl).trans hs.2.1, (grownBy_keeps hg' (fun r e => (hr r e).2) hs.2.2 rfl).trans hs.2.2⟩)
    (fun s A B row hs hg' hr => by
      obtain ⟨c, h1, h2, h3⟩ := hs
      exact ⟨c, hIx c s A B row h1 hg' (keep A B row hg' hr), (grownBy_keeps hg' (fun r e => (hr r e).2) h2 rfl).trans h2, (grownBy_keeps hg' (fun r e => (hr r e).2) h3 rfl).trans h3⟩)
    ?round ⟨iV, lV, dV⟩).mono ?behind
  case behind =>
    rintro e W2 ⟨⟨v, rfl⟩, ⟨xs, hS, hi, hl, hk⟩ | ⟨pre, hSp, c, hi, hl, hk⟩⟩
    · have hr := run_endLoop (P := P) hl (by rw [hrec]; simp)
      rw [hrec] at hr
      exact ⟨none, _, hr, hdone D xs _ (Nat.le_refl _) hS (hI.putObj _ hi (by omega) hl rfl) ((World.putObj_heap_other (by omega)).trans hk)⟩
    · have hr := run_endLoop (P := P) hl (by rw [hrec]; simp)
      rw [hrec] at hr
      exact ⟨some c, _, hr, hstop D c pre _ (Nat.le_refl _) hSp ((hIx c).putObj _ hi (by omega) hl rfl) ((World.putObj_heap_other (by omega)).trans hk)⟩
  case round =>
    rintro pre x Y ⟨iY, lY, dY⟩ hlen
    have hy := run_yield (P := P) (args := encs x) lY (by rw [hrec]; exact hps x)
    rw [hrec] at hy
    refine ⟨fn, _, assign, body, hy, roundIn_of_wpIn hfn (hassign _ pre x Y _ iY ?_)⟩
    intro a' A hkA iA axA
    have lA := hkA.same _ _ (by omega) lY rfl
    have dA := hkA.same _ _ (Nat.le_refl _) dY rfl
    have sA : D + 1 < A.heap.size := (Array.getElem?_eq_some_iff.1 lA).1
    refine ⟨_, run_beginRound lA (by rw [hrec]), ?_⟩
    obtain ⟨Bz, hBz⟩ : ∃ Bz, A.putObj (D + 1) (.loop { rec .ready none with state := .busy }) = Bz := ⟨_, rfl⟩
    have lB : Bz.heap[D + 1]? = some (.loop { rec .ready none with state := .busy }) := by rw [← hBz]; exact World.putObj_heap_same sA
    have dB : Bz.heap[D]? = some (.deferred (some [])) := by rw [← hBz]; exact (World.putObj_heap_other (by omega)).trans dA
    have iB : I pre Bz := by rw [← hBz]; exact hI.putObj _ iA (by omega) lA rfl
    have axB : Ax x Y a' Bz := by rw [← hBz]; exact (hAx x Y a').putObj (s := ()) _ axA (by omega) lA rfl
    rw [hBz]
    refine wpIn_mono (hbody _ pre x Y a' Bz (by omega) ⟨_, lB⟩ iB axB hlen) ?_
    have fin : ∀ (jump : Option Code) (C : World), KeepsFrom w.heap.size Bz C →
        (Instr.endRound (D + 1) jump).run P C = .ok (.bool jump.isNone) (C.putObj (D + 1) (.loop (rec (if jump.isNone then .ready else .done) jump))) ∧
        C.heap[D + 1]? = some (.loop { rec .ready none with state := .busy }) ∧
        (C.putObj (D + 1) (.loop (rec (if jump.isNone then .ready else .done) jump))).heap[D + 1]? = some (.loop (rec (if jump.isNone then .ready else .done) jump)) ∧
        (C.putObj (D + 1) (.loop (rec (if jump.isNone then .ready else .done) jump))).heap[D]? = some (.deferred (some [])) := fun jump C hC => by
      have lC := hC.same _ _ (by omega) lB rfl
      have hr := run_endRound (P := P) jump lC
      rw [hrec] at hr lC ⊢
      exact ⟨hr, lC, World.putObj_heap_same (Array.getElem?_eq_some_iff.1 lC).1, (World.putObj_heap_other (by omega)).trans (hC.same _ _ (Nat.le_refl _) dB rfl)⟩
    rintro e a3 C hp
    have left : ∀ c, KeepsFrom w.heap.size Bz C → Ix c (pre ++ [x]) C → ∃ c', Ix c' (pre ++ [x]) (C.putObj (D + 1) (.loop (rec .done (some c)))) ∧ (C.putObj (D + 1) (.loop (rec .done (some c)))).heap[D + 1]? = some (.loop (rec .done (some c'))) ∧ (C.putObj (D + 1) (.loop (rec .done (some c)))).heap[D]? = some (.deferred (some [])) := fun c hk hi => by
      obtain ⟨_, h2, h3, h4⟩ := fin (some c) C hk
      exact ⟨c, (hIx _).putObj _ hi (by omega) h2 rfl, h3, h4⟩
    cases e with
    | normal =>
      obtain ⟨hk, hkp, hi⟩ := hp
      obtain ⟨hr, h2, h3, h4⟩ := fin none C hk
      exact ⟨_, _, hr, .inl ⟨rfl, ⟨hI.putObj _ hi (by omega) h2 rfl, h3, h4⟩, hKp _ _ _ _ _ (by omega) h2 rfl hkp⟩⟩
    | ret => exact ⟨_, _, (fin (some .ret) C hp.1).1, .inr ⟨rfl, left .ret hp.1 hp.2⟩⟩
    | exit id => exact ⟨_, _, (fin (some (.exit id)) C hp.1).1, .inr ⟨rfl, left (.exit id) hp.1 hp.2⟩⟩
    | goto t => exact ⟨_, _, (fin (some (.goto t)) C hp.1).1, .inr ⟨rfl, left (.goto t) hp.1 hp.2⟩⟩
    | panic ch => exact hp.elim
    | outgrown => exact hp.elim

end Go.Proofs.YtaodjipnffgihaaGreat
