/- macro.cutParameters. -/
import Derived.Test.YtaodjipnffgihaaGreatMcF
import Derived.Test.YtaodjipnffgihaaGreatMcP
namespace Go.Proofs.YtaodjipnffgihaaGreat
open Go.RowKit Go.Shelf

/-- What cutParameters answers. -/
def CutRes (B : Nat) (w : World) (x : Option (List ByteArray × Bool × List Tz)) (e : Ending) (w' : World) : Prop :=
  (match x with
    | none => e = .returned (.tuple #[.slice none 0 0, .bool false, .slice none 0 0, .bool false])
    | some (ps, vr, l) => ∃ v a cap, e = .returned (.tuple #[v, .bool vr, .slice a l.length cap, .bool true]) ∧ w'.ownsRow w.heap.size 9 1 v ps.length (stV ps) ∧ l.length ≤ cap ∧ ToksAt w B a l) ∧ Below w.heap.size w w'
theorem CutRes.no {B : Nat} {w w' : World} {x : Option (List ByteArray × Bool × List Tz)} {e : Ending} (hx : x = none) (he : e = .returned (.tuple #[.slice none 0 0, .bool false, .slice none 0 0, .bool false])) (hb : Below w.heap.size w w') : CutRes B w x e w' := by
  subst hx; exact ⟨he, hb⟩
theorem CutRes.yes {B : Nat} {w w' : World} {x : Option (List ByteArray × Bool × List Tz)} {e : Ending} {ps : List ByteArray} {vr : Bool} {l : List Tz} {n m cap : Nat} {v : Value} {a : Option Addr} (hx : x = some (ps, vr, l)) (hn : ps.length = n) (hm : l.length = m) (he : e = .returned (.tuple #[v, .bool vr, .slice a m cap, .bool true])) (hr : w'.ownsRow w.heap.size 9 1 v n (stV ps)) (hc : m ≤ cap) (ht : ToksAt w B a l) (hb : Below w.heap.size w w') : CutRes B w x e w' := by
  subst hx hn hm; exact ⟨⟨v, a, cap, he, hr, hc, ht⟩, hb⟩
theorem toksAt_drop {W : World} {B b o : Nat} {ts : List Tz} (hb : b < B) (h : TzAt W b o ts) (i : Nat) : ToksAt W B (some ⟨b, o + i * 5, none⟩) (ts.drop i) := fun _ => ⟨b, o + i * 5, rfl, hb, h.drop i⟩
theorem results_tmp4 {fn : Func} {t u v x : Tmp} (h : fn.results = #[.tmp t, .tmp u, .tmp v, .tmp x]) (tmps : Array Value) (P : Program) (w : World) :
    (results fn tmps).run P w = .ok (.tuple #[tmps.getD t undef, tmps.getD u undef, tmps.getD v undef, tmps.getD x undef]) w := by
  simp [results, h]
/-- A token's block. -/
def TokBox (W : World) (P : Nat) (t : Tz) : Prop := W.heap[P]? = some (.cells #[.int .i64 t.k, .string t.tx, .int .i64 t.a, .int .i64 t.e, .bool t.sp] 83 (0, 0))
theorem TokBox.cells {W : World} {P : Nat} {t : Tz} (h : TokBox W P t) : W.cell? ⟨P, 0, none⟩ = some (.int .i64 t.k) ∧ W.cell? ⟨P, 1, none⟩ = some (.string t.tx) ∧ W.cell? ⟨P, 2, none⟩ = some (.int .i64 t.a) ∧ W.cell? ⟨P, 3, none⟩ = some (.int .i64 t.e) ∧ W.cell? ⟨P, 4, none⟩ = some (.bool t.sp) := box_cells rfl h
theorem TokBox.below {W W' : World} {P : Nat} {t : Tz} (h : TokBox W P t) (hb : Below W.heap.size W W') : TokBox W' P t := (hb.block P (Array.getElem?_eq_some_iff.1 h).1).trans h
theorem TokBox.grown {W W' : World} {P : Nat} {t : Tz} {row : Option Nat} (h : TokBox W P t) (hg : W.grownBy W' row) (hne : some P ≠ row) : TokBox W' P t := (hg.block P (Array.getElem?_eq_some_iff.1 h).1 hne).trans h


set_option maxRecDepth 100000 in
set_option maxHeartbeats 16000000 in
theorem cutPar_loop (ts : List Tz) (n cap : Nat) (a : Option Addr) (w : World) (hn : ts.length = n) (hnc : n ≤ cap) (hn2 : n * 48 ≤ 140737488355328) (hx : ∀ t ∈ ts, t.tx.size ≤ 281474976710656) (B : Nat) (hBw0 : B ≤ w.heap.size) (hT : ToksAt w B a ts) (h0 : 0 < n) (hp : ∀ t r, ts = t :: r → isP t [41] = false) :
    Calls Tryz.prog 82 #[.slice a n cap] w (CutRes B w (parP [] ts)) := by
  obtain ⟨i0, hi, hz0, hz1, hz2⟩ := info_parts infoS
  have HX := Lib.hid hx
  obtain ⟨R, hR⟩ : ∃ R, parP [] ts = R := ⟨_, rfl⟩
  have HR : Hid (R = parP [] ts) := Lib.hid hR.symm
  have HN := Lib.hid hn
  have HT0 : Hid (ToksAt w B a ts) := Lib.hid hT
  obtain ⟨t0, r0, e0⟩ : ∃ t r, ts = t :: r := by
    cases ts with
    | nil => simp at hn; omega
    | cons t r => exact ⟨t, r, rfl⟩
  have hp0 := hp t0 r0 e0
  obtain ⟨b0, o0, rfl, hg0, hr0⟩ := hT (by omega)
  obtain ⟨c0, c1, c2, c3, c4⟩ := hr0 0 t0 (by rw [e0]; rfl)
  rw [Nat.zero_mul, Nat.add_zero] at c0 c1 c2 c3 c4
  have CC := spells_any t0 5 [⟨#[41]⟩] 1 1 _ _ rfl (by decide) (strIn_one w 9 #[.string ⟨#[41]⟩] [⟨#[41]⟩] rfl)
  rw [← isP_eq t0 ⟨#[41]⟩ [41] (Lib.toList_data _), hp0] at CC
  have hb1 := below1 w (.cells #[.string ⟨#[41]⟩] 9)
  have q1 : (0 : Int) < (n : Int) := by omega
  rw [hR]
  clear hn hx hT hR e0 hp hp0 hr0
  go_enter Tryz.func82, Tryz.ntmps82
  go_wp2
  go_step3
  go_wp2_with fail
  refine CC.mono ?_
  rintro e w1 ⟨rfl, hbc⟩
  have hB1 := hb1.trans (hbc.mono hb1.size)
  clear c0 c1 c2 c3 c4 CC hb1 hbc q1
  go_wp2
  go_step3
  go_wp2
  go_loopg [0, 2, 3, 5] n (fun gh lv v vv iv wx => ∃ (Lx : List Tz) (acc : List ByteArray) (m p cr : Nat) (ar : Option Addr), vv = .bool false ∧ iv = .bool false ∧ lv = .slice ar m cr ∧ m = gh ∧ m ≤ cr ∧ p + m ≤ n ∧ Hid (Lx.length = m) ∧ Hid (∀ t ∈ Lx, t.tx.size ≤ 281474976710656) ∧ Hid (ToksAt w B ar Lx) ∧ Hid (R = parP acc Lx) ∧ Hid (acc.length = p) ∧ Hid (∀ s ∈ acc, s.size ≤ 281474976710656) ∧ wx.ownsRow w.heap.size 9 1 v p (stV acc) ∧ Below w.heap.size w wx)
  case atStart => exact ⟨ts, [], n, 0, cap, _, rfl, rfl, rfl, rfl, hnc, by omega, HN, HX, HT0, HR, Lib.hid rfl, Lib.hid (fun s h => by cases h), World.ownsRow_nil _ _ _ _, hB1⟩
  case round =>
    obtain ⟨Lx, acc, m, p, cr, ar, rfl, rfl, rfl, rfl, hmc, hpm, HM, HX, HAR, HK, HAL, HAX, hrow, hbx⟩ := hrel
    by_cases hlt : 1 < m
    · obtain ⟨t, u, r, hL⟩ : ∃ t u r, Lx = t :: u :: r := by
        have := HM.out
        match Lx, this with
        | [], h => simp at h; omega
        | [_], h => simp at h; omega
        | t :: u :: r, _ => exact ⟨t, u, r, rfl⟩
      subst hL
      obtain ⟨b, q, rfl, hg1, hr⟩ := HAR.out (by simp)
      have hg1w : b < w.heap.size := Nat.lt_of_lt_of_le hg1 hBw0
      have hrw := hr.below hbx hg1w
      have hgw : b < wr.heap.size := Nat.lt_of_lt_of_le hg1w hbx.size
      have HSB : Hid (∀ W, Below wr.heap.size wr W → TzAt W b q (t :: u :: r)) := Lib.hid (fun W h => hrw.below h hgw)
      have hst := HK.out
      rw [parP_two] at hst
      have HK2 := Lib.hid hst
      have HAR2 : Hid (ToksAt w B (some ⟨b, q + 2 * 5, none⟩) r) := Lib.hid (toksAt_drop hg1 hr 2)
      have HRL : Hid (r.length = m - 2) := Lib.hid (by have := HM.out; simp only [List.length_cons] at this; omega)
      have HXr : Hid (∀ t ∈ r, t.tx.size ≤ 281474976710656) := Lib.hid (fun x h => HX.out x (List.mem_cons_of_mem _ (List.mem_cons_of_mem _ h)))
      have htx := HX.out t List.mem_cons_self
      have HAL2 : Hid ((acc ++ [t.tx]).length = p + 1) := Lib.hid (by rw [List.length_append, HAL.out]; rfl)
      have HAX2 : Hid (∀ s ∈ acc ++ [t.tx], s.size ≤ 281474976710656) := Lib.hid (fun s hs => by
        rcases List.mem_append.1 hs with h | h
        · exact HAX.out s h
        · rw [List.mem_singleton.1 h]; exact htx)
      have hrlt := hrow.lt
      have HBO : Hid (∀ j, u2.ownBlock = some j → j < wr.heap.size) := Lib.hid (fun j e => (hrlt j e).2)
      have j1 : (1 : Int) < (m : Int) := by omega
      have j2 : (0 : Int) < (m : Int) := by omega
      clear hst HK hr
      go_upto_region 4 with fail
      go_cut [6, 7] from 20 to 49 (fun tv uv wx => ∃ P Q : Nat, tv = .pointer (some ⟨P, 0, none⟩) ∧ uv = .pointer (some ⟨Q, 0, none⟩) ∧ TokBox wx P t ∧ TokBox wx Q u ∧ wr.heap.size ≤ P ∧ wr.heap.size ≤ Q ∧ Below wr.heap.size wr wx)
      case first =>
        refine wp_region_held_drew (S := (fun W : World => TzAt W b q (t :: u :: r))) (by kernel_rfl) hrw (fun hS => ?_)
        refine take_op (i := 0) (d := 23) (v := .slice (some ⟨b, q, none⟩) m cr) rfl rfl (by kernel_rfl) (by kernel_rfl) (by kernel_rfl) (fun _ _ _ h => h) (Or.inl ⟨by rfl, ?_⟩) hS ?_
        · rintro W hW
          obtain ⟨x0, x1, x2, x3, x4⟩ := hW 0 t rfl
          obtain ⟨y0, y1, y2, y3, y4⟩ := hW 1 u rfl
          rw [Nat.zero_mul, Nat.add_zero] at x0 x1 x2 x3 x4
          rw [Nat.one_mul] at y0 y1 y2 y3 y4
          go_simp
          try (intro hh; exfalso; omega)
        simp only [List.setIfInBounds_toArray, List.set_cons_zero, List.set_cons_succ]
        refine take_op (i := 1) (d := 24) (v := .pointer (some ⟨b, q, none⟩)) rfl rfl (by kernel_rfl) (by kernel_rfl) (by kernel_rfl) (fun _ _ _ h => h) (Or.inl ⟨by rfl, ?_⟩) hS ?_
        · rintro W hW
          obtain ⟨x0, x1, x2, x3, x4⟩ := hW 0 t rfl
          obtain ⟨y0, y1, y2, y3, y4⟩ := hW 1 u rfl
          rw [Nat.zero_mul, Nat.add_zero] at x0 x1 x2 x3 x4
          rw [Nat.one_mul] at y0 y1 y2 y3 y4
          go_simp
          try (intro hh; exfalso; omega)
        simp only [List.setIfInBounds_toArray, List.set_cons_zero, List.set_cons_succ]
        refine take_op (i := 2) (d := 25) (v := .agg #[.int .i64 t.k, .string t.tx, .int .i64 t.a, .int .i64 t.e, .bool t.sp]) rfl rfl (by kernel_rfl) (by kernel_rfl) (by kernel_rfl) (fun _ _ _ h => h) (Or.inl ⟨by rfl, ?_⟩) hS ?_
        · rintro W hW
          obtain ⟨x0, x1, x2, x3, x4⟩ := hW 0 t rfl
          obtain ⟨y0, y1, y2, y3, y4⟩ := hW 1 u rfl
          rw [Nat.zero_mul, Nat.add_zero] at x0 x1 x2 x3 x4
          rw [Nat.one_mul] at y0 y1 y2 y3 y4
          go_simp
          try (intro hh; exfalso; omega)
        simp only [List.setIfInBounds_toArray, List.set_cons_zero, List.set_cons_succ]
        refine take_op (i := 3) (d := 26) (v := .slice (some ⟨b, q, none⟩) m cr) rfl rfl (by kernel_rfl) (by kernel_rfl) (by kernel_rfl) (fun _ _ _ h => h) (Or.inl ⟨by rfl, ?_⟩) hS ?_
        · rintro W hW
          obtain ⟨x0, x1, x2, x3, x4⟩ := hW 0 t rfl
          obtain ⟨y0, y1, y2, y3, y4⟩ := hW 1 u rfl
          rw [Nat.zero_mul, Nat.add_zero] at x0 x1 x2 x3 x4
          rw [Nat.one_mul] at y0 y1 y2 y3 y4
          go_simp
          try (intro hh; exfalso; omega)
        simp only [List.setIfInBounds_toArray, List.set_cons_zero, List.set_cons_succ]
        refine take_op (i := 4) (d := 27) (v := .pointer (some ⟨b, q + 5, none⟩)) rfl rfl (by kernel_rfl) (by kernel_rfl) (by kernel_rfl) (fun _ _ _ h => h) (Or.inl ⟨by rfl, ?_⟩) hS ?_
        · rintro W hW
          obtain ⟨x0, x1, x2, x3, x4⟩ := hW 0 t rfl
          obtain ⟨y0, y1, y2, y3, y4⟩ := hW 1 u rfl
          rw [Nat.zero_mul, Nat.add_zero] at x0 x1 x2 x3 x4
          rw [Nat.one_mul] at y0 y1 y2 y3 y4
          go_simp
          try (intro hh; exfalso; omega)
        simp only [List.setIfInBounds_toArray, List.set_cons_zero, List.set_cons_succ]
        refine take_op (i := 5) (d := 28) (v := .agg #[.int .i64 u.k, .string u.tx, .int .i64 u.a, .int .i64 u.e, .bool u.sp]) rfl rfl (by kernel_rfl) (by kernel_rfl) (by kernel_rfl) (fun _ _ _ h => h) (Or.inl ⟨by rfl, ?_⟩) hS ?_
        · rintro W hW
          obtain ⟨x0, x1, x2, x3, x4⟩ := hW 0 t rfl
          obtain ⟨y0, y1, y2, y3, y4⟩ := hW 1 u rfl
          rw [Nat.zero_mul, Nat.add_zero] at x0 x1 x2 x3 x4
          rw [Nat.one_mul] at y0 y1 y2 y3 y4
          go_simp
          try (intro hh; exfalso; omega)
        simp only [List.setIfInBounds_toArray, List.set_cons_zero, List.set_cons_succ]
        refine wpAnyH_ready (rs := [6, 7]) (by kernel_rfl) (by simp) ?_
        refine AllReadyH.cons rfl (fun K hK => ?_) (AllReadyH.cons rfl (fun K hK => ?_) AllReadyH.nil)
        · go_simp
          refine hK.out _ _ (HSB.out _ ((below_drewN (Below.refl wr.heap.size wr) 1).alloc (below_drewN (Below.refl wr.heap.size wr) 1).size _)) (fun hS => ?_)
          clear hK K
          refine wpAnyH_ready (rs := [7]) (by kernel_rfl) (by simp) ?_
          refine AllReadyH.cons rfl (fun K hK => ?_) AllReadyH.nil
          go_simp
          refine hK.out _ _ (HSB.out _ (((below_drewN (Below.refl wr.heap.size wr) 1).alloc (below_drewN (Below.refl wr.heap.size wr) 1).size _).alloc ((below_drewN (Below.refl wr.heap.size wr) 1).alloc (below_drewN (Below.refl wr.heap.size wr) 1).size _).size _)) (fun hS => ?_)
          clear hK K
          refine wpAnyH_ready (rs := [8]) (by kernel_rfl) (by simp) ?_
          refine AllReadyH.cons rfl (fun K hK => ?_) AllReadyH.nil
          go_simp
          refine hK.out _ _ (HSB.out _ (((below_drewN (Below.refl wr.heap.size wr) 1).alloc (below_drewN (Below.refl wr.heap.size wr) 1).size _).alloc ((below_drewN (Below.refl wr.heap.size wr) 1).alloc (below_drewN (Below.refl wr.heap.size wr) 1).size _).size _)) (fun hS => ?_)
          clear hK K
          refine wpAnyH_ready (rs := [9]) (by kernel_rfl) (by simp) ?_
          refine AllReadyH.cons rfl (fun K hK => ?_) AllReadyH.nil
          go_simp
          refine hK.out _ _ (HSB.out _ (((below_drewN (Below.refl wr.heap.size wr) 1).alloc (below_drewN (Below.refl wr.heap.size wr) 1).size _).alloc ((below_drewN (Below.refl wr.heap.size wr) 1).alloc (below_drewN (Below.refl wr.heap.size wr) 1).size _).size _)) (fun hS => ?_)
          clear hK K
          refine wpAnyH_done (by kernel_rfl) ?_ _
          go_wp2_with fail
          go_meet
          have h1 := World.alloc_heap_new wr.drew (.cells #[.int .i64 t.k, .string t.tx, .int .i64 t.a, .int .i64 t.e, .bool t.sp] 83)
          have h2 := World.alloc_heap_new (wr.drew.alloc (.cells #[.int .i64 t.k, .string t.tx, .int .i64 t.a, .int .i64 t.e, .bool t.sp] 83)) (.cells #[.int .i64 u.k, .string u.tx, .int .i64 u.a, .int .i64 u.e, .bool u.sp] 83)
          rw [World.size_alloc] at h2
          have h3 := (Below.heap_alloc (wr.drew.alloc (.cells #[.int .i64 t.k, .string t.tx, .int .i64 t.a, .int .i64 t.e, .bool t.sp] 83)) (.cells #[.int .i64 u.k, .string u.tx, .int .i64 u.a, .int .i64 u.e, .bool u.sp] 83) wr.heap.size (by simp)).trans h1
          exact ⟨wr.heap.size, wr.heap.size + 1, rfl, rfl, h3, h2, by omega, by omega, (((below_drewN (Below.refl wr.heap.size wr) 1).alloc (below_drewN (Below.refl wr.heap.size wr) 1).size _).alloc ((below_drewN (Below.refl wr.heap.size wr) 1).alloc (below_drewN (Below.refl wr.heap.size wr) 1).size _).size _)⟩

        · go_simp
          refine hK.out _ _ (HSB.out _ ((below_drewN (Below.refl wr.heap.size wr) 1).alloc (below_drewN (Below.refl wr.heap.size wr) 1).size _)) (fun hS => ?_)
          clear hK K
          refine wpAnyH_ready (rs := [6]) (by kernel_rfl) (by simp) ?_
          refine AllReadyH.cons rfl (fun K hK => ?_) AllReadyH.nil
          go_simp
          refine hK.out _ _ (HSB.out _ (((below_drewN (Below.refl wr.heap.size wr) 1).alloc (below_drewN (Below.refl wr.heap.size wr) 1).size _).alloc ((below_drewN (Below.refl wr.heap.size wr) 1).alloc (below_drewN (Below.refl wr.heap.size wr) 1).size _).size _)) (fun hS => ?_)
          clear hK K
          refine wpAnyH_ready (rs := [8]) (by kernel_rfl) (by simp) ?_
          refine AllReadyH.cons rfl (fun K hK => ?_) AllReadyH.nil
          go_simp
          refine hK.out _ _ (HSB.out _ (((below_drewN (Below.refl wr.heap.size wr) 1).alloc (below_drewN (Below.refl wr.heap.size wr) 1).size _).alloc ((below_drewN (Below.refl wr.heap.size wr) 1).alloc (below_drewN (Below.refl wr.heap.size wr) 1).size _).size _)) (fun hS => ?_)
          clear hK K
          refine wpAnyH_ready (rs := [9]) (by kernel_rfl) (by simp) ?_
          refine AllReadyH.cons rfl (fun K hK => ?_) AllReadyH.nil
          go_simp
          refine hK.out _ _ (HSB.out _ (((below_drewN (Below.refl wr.heap.size wr) 1).alloc (below_drewN (Below.refl wr.heap.size wr) 1).size _).alloc ((below_drewN (Below.refl wr.heap.size wr) 1).alloc (below_drewN (Below.refl wr.heap.size wr) 1).size _).size _)) (fun hS => ?_)
          clear hK K
          refine wpAnyH_done (by kernel_rfl) ?_ _
          go_wp2_with fail
          go_meet
          have h1 := World.alloc_heap_new wr.drew (.cells #[.int .i64 u.k, .string u.tx, .int .i64 u.a, .int .i64 u.e, .bool u.sp] 83)
          have h2 := World.alloc_heap_new (wr.drew.alloc (.cells #[.int .i64 u.k, .string u.tx, .int .i64 u.a, .int .i64 u.e, .bool u.sp] 83)) (.cells #[.int .i64 t.k, .string t.tx, .int .i64 t.a, .int .i64 t.e, .bool t.sp] 83)
          rw [World.size_alloc] at h2
          have h3 := (Below.heap_alloc (wr.drew.alloc (.cells #[.int .i64 u.k, .string u.tx, .int .i64 u.a, .int .i64 u.e, .bool u.sp] 83)) (.cells #[.int .i64 t.k, .string t.tx, .int .i64 t.a, .int .i64 t.e, .bool t.sp] 83) wr.heap.size (by simp)).trans h1
          exact ⟨wr.heap.size + 1, wr.heap.size, rfl, rfl, h2, h3, by omega, by omega, (((below_drewN (Below.refl wr.heap.size wr) 1).alloc (below_drewN (Below.refl wr.heap.size wr) 1).size _).alloc ((below_drewN (Below.refl wr.heap.size wr) 1).alloc (below_drewN (Below.refl wr.heap.size wr) 1).size _).size _)⟩

      case rest =>
        obtain ⟨P, Q, rfl, rfl, hP, hQ, hPl, hQl, hbc⟩ := hcut
        have hbt := hP
        have hbu := hQ
        have hBw := hbx.trans (hbc.mono hbx.size)
        replace hrow := row_below hrow hbc
        have hbtP : wr.heap.size ≤ P := hPl
        have hbuQ : wr.heap.size ≤ Q := hQl
        have j3 : (2 : Int) ≤ (m : Int) := by omega
        have j4 : (2 : Int) ≤ (cr : Int) := by omega
        clear hP hQ hPl hQl
        by_cases hcap : cr = 2
        · obtain rfl : m = 2 := by omega
          subst hcap
          have HAR3 : Hid (∀ x, ToksAt w B x r) := Lib.hid (fun x hp => absurd hp (by rw [HRL.out]; omega))
          cases hdots : isP t [46, 46, 46] with
          | true =>
            cases hcl : isP u [41] with
            | true =>
              have C1 := spells_any t 5 [⟨#[46, 46, 46]⟩] 1 1 _ _ rfl (by decide) (strIn_one wc 9 #[.string ⟨#[46, 46, 46]⟩] [⟨#[46, 46, 46]⟩] rfl)
              rw [← isP_eq t ⟨#[46, 46, 46]⟩ [46, 46, 46] (Lib.toList_data _), hdots] at C1
              obtain ⟨x0, x1, x2, x3, x4⟩ := hbt.cells
              go_wp2_with fail
              refine C1.mono ?_
              rintro e v1 ⟨rfl, hv1⟩
              replace hv1 := (below1 wc (.cells #[.string ⟨#[46, 46, 46]⟩] 9)).trans (hv1.mono (below1 wc (.cells #[.string ⟨#[46, 46, 46]⟩] 9)).size)
              clear C1 x0 x1 x2 x3 x4
              replace hbt := hbt.below hv1
              replace hbu := hbu.below hv1
              replace hrow := row_below hrow hv1
              replace hBw := hBw.trans (hv1.mono hBw.size)
              have C2 := spells_any u 5 [⟨#[41]⟩] 1 1 _ _ rfl (by decide) (strIn_one v1 9 #[.string ⟨#[41]⟩] [⟨#[41]⟩] rfl)
              rw [← isP_eq u ⟨#[41]⟩ [41] (Lib.toList_data _), hcl] at C2
              obtain ⟨x0, x1, x2, x3, x4⟩ := hbu.cells
              go_wp2_with fail
              refine C2.mono ?_
              rintro e v2 ⟨rfl, hv2⟩
              replace hv2 := (below1 v1 (.cells #[.string ⟨#[41]⟩] 9)).trans (hv2.mono (below1 v1 (.cells #[.string ⟨#[41]⟩] 9)).size)
              clear C2 x0 x1 x2 x3 x4
              replace hbt := hbt.below hv2
              replace hbu := hbu.below hv2
              replace hrow := row_below hrow hv2
              replace hBw := hBw.trans (hv2.mono hBw.size)
              have hrl := hrow
              obtain ⟨pa, pcap, rfl⟩ := row_shape hrl
              have CSet := setOf_any acc p pcap pa v2 HAL.out (by omega) (fun s h => Nat.le_trans (HAX.out s h) (by decide)) (strIn_row HAL.out hrl)
              have hsz := size_setT acc
              rw [HAL.out] at hsz
              go_wp2_with fail
              refine CSet.mono ?_
              rintro e wS ⟨⟨BS, rfl, -, hS⟩, hbS⟩
              have hBS := hBw.trans (hbS.mono hBw.size)
              have hrl2 := row_below hrl hbS
              unfold SetIn at hS
              have hln := hS.len Tryz.underlying133 3
              by_cases hd : distS acc = true
              · have hz : ¬ (Maps.size (setT acc) : Int) < (p : Int) := by
                  have h2 : ¬ Maps.size (setT acc) < p := fun h => by rw [hsz.2.1 h] at hd; cases hd
                  omega
                have hRS : Hid (R = some (acc, true, r)) := Lib.hid (by rw [HK2.out, if_pos hdots, if_pos hcl, finS_yes hd])
                clear hsz hd
                go_wp2
                try rw [Exit.noGoto_ret]
                (try simp only [Exit.inBlock, Exit.then]); refine bodyPost_ret (results_tmp4 rfl _ _ _) rfl ?_
                exact CutRes.yes hRS.out HAL.out HRL.out rfl hrl2 (by omega) (HAR3.out _) hBS
              · have hz : (Maps.size (setT acc) : Int) < (p : Int) := by
                  have h2 := hsz.2.2 (Bool.eq_false_iff.2 hd)
                  omega
                have hRS : Hid (R = none) := Lib.hid (by rw [HK2.out, if_pos hdots, if_pos hcl, finS_no (Bool.eq_false_iff.2 hd)])
                clear hsz hd
                go_wp2
                try rw [Exit.noGoto_ret]
                (try simp only [Exit.inBlock, Exit.then]); refine bodyPost_ret (results_tmp4 rfl _ _ _) rfl ?_
                exact CutRes.no hRS.out rfl hBS

            | false =>
              have C1 := spells_any t 5 [⟨#[46, 46, 46]⟩] 1 1 _ _ rfl (by decide) (strIn_one wc 9 #[.string ⟨#[46, 46, 46]⟩] [⟨#[46, 46, 46]⟩] rfl)
              rw [← isP_eq t ⟨#[46, 46, 46]⟩ [46, 46, 46] (Lib.toList_data _), hdots] at C1
              obtain ⟨x0, x1, x2, x3, x4⟩ := hbt.cells
              go_wp2_with fail
              refine C1.mono ?_
              rintro e v1 ⟨rfl, hv1⟩
              replace hv1 := (below1 wc (.cells #[.string ⟨#[46, 46, 46]⟩] 9)).trans (hv1.mono (below1 wc (.cells #[.string ⟨#[46, 46, 46]⟩] 9)).size)
              clear C1 x0 x1 x2 x3 x4
              replace hbt := hbt.below hv1
              replace hbu := hbu.below hv1
              replace hrow := row_below hrow hv1
              replace hBw := hBw.trans (hv1.mono hBw.size)
              have C2 := spells_any u 5 [⟨#[41]⟩] 1 1 _ _ rfl (by decide) (strIn_one v1 9 #[.string ⟨#[41]⟩] [⟨#[41]⟩] rfl)
              rw [← isP_eq u ⟨#[41]⟩ [41] (Lib.toList_data _), hcl] at C2
              obtain ⟨x0, x1, x2, x3, x4⟩ := hbu.cells
              go_wp2_with fail
              refine C2.mono ?_
              rintro e v2 ⟨rfl, hv2⟩
              replace hv2 := (below1 v1 (.cells #[.string ⟨#[41]⟩] 9)).trans (hv2.mono (below1 v1 (.cells #[.string ⟨#[41]⟩] 9)).size)
              clear C2 x0 x1 x2 x3 x4
              replace hbt := hbt.below hv2
              replace hbu := hbu.below hv2
              replace hrow := row_below hrow hv2
              replace hBw := hBw.trans (hv2.mono hBw.size)
              go_wp2
              try rw [Exit.noGoto_ret]
              (try simp only [Exit.inBlock, Exit.then]); refine bodyPost_ret (results_tmp4 rfl _ _ _) rfl ?_
              exact CutRes.no (by rw [HK2.out, if_pos hdots, if_neg (by rw [hcl]; decide)]) rfl hBw

          | false =>
            cases hwd : wordP t with
            | false =>
              have C1 := spells_any t 5 [⟨#[46, 46, 46]⟩] 1 1 _ _ rfl (by decide) (strIn_one wc 9 #[.string ⟨#[46, 46, 46]⟩] [⟨#[46, 46, 46]⟩] rfl)
              rw [← isP_eq t ⟨#[46, 46, 46]⟩ [46, 46, 46] (Lib.toList_data _), hdots] at C1
              obtain ⟨x0, x1, x2, x3, x4⟩ := hbt.cells
              go_wp2_with fail
              refine C1.mono ?_
              rintro e v1 ⟨rfl, hv1⟩
              replace hv1 := (below1 wc (.cells #[.string ⟨#[46, 46, 46]⟩] 9)).trans (hv1.mono (below1 wc (.cells #[.string ⟨#[46, 46, 46]⟩] 9)).size)
              clear C1 x0 x1 x2 x3 x4
              replace hbt := hbt.below hv1
              replace hbu := hbu.below hv1
              replace hrow := row_below hrow hv1
              replace hBw := hBw.trans (hv1.mono hBw.size)
              have C2 := mayParam_any t v1
              rw [hwd] at C2
              obtain ⟨x0, x1, x2, x3, x4⟩ := hbt.cells
              go_wp2_with fail
              refine C2.mono ?_
              rintro e v2 ⟨rfl, hv2⟩
              clear C2 x0 x1 x2 x3 x4
              replace hbt := hbt.below hv2
              replace hbu := hbu.below hv2
              replace hrow := row_below hrow hv2
              replace hBw := hBw.trans (hv2.mono hBw.size)
              go_wp2
              try rw [Exit.noGoto_ret]
              (try simp only [Exit.inBlock, Exit.then]); refine bodyPost_ret (results_tmp4 rfl _ _ _) rfl ?_
              exact CutRes.no (by rw [HK2.out, if_neg (by rw [hdots]; decide), if_neg (by rw [hwd]; decide)]) rfl hBw

            | true =>
              cases hco : isP u [44] with
              | true =>
                have C1 := spells_any t 5 [⟨#[46, 46, 46]⟩] 1 1 _ _ rfl (by decide) (strIn_one wc 9 #[.string ⟨#[46, 46, 46]⟩] [⟨#[46, 46, 46]⟩] rfl)
                rw [← isP_eq t ⟨#[46, 46, 46]⟩ [46, 46, 46] (Lib.toList_data _), hdots] at C1
                obtain ⟨x0, x1, x2, x3, x4⟩ := hbt.cells
                go_wp2_with fail
                refine C1.mono ?_
                rintro e v1 ⟨rfl, hv1⟩
                replace hv1 := (below1 wc (.cells #[.string ⟨#[46, 46, 46]⟩] 9)).trans (hv1.mono (below1 wc (.cells #[.string ⟨#[46, 46, 46]⟩] 9)).size)
                clear C1 x0 x1 x2 x3 x4
                replace hbt := hbt.below hv1
                replace hbu := hbu.below hv1
                replace hrow := row_below hrow hv1
                replace hBw := hBw.trans (hv1.mono hBw.size)
                have C2 := mayParam_any t v1
                rw [hwd] at C2
                obtain ⟨x0, x1, x2, x3, x4⟩ := hbt.cells
                go_wp2_with fail
                refine C2.mono ?_
                rintro e v2 ⟨rfl, hv2⟩
                clear C2 x0 x1 x2 x3 x4
                replace hbt := hbt.below hv2
                replace hbu := hbu.below hv2
                replace hrow := row_below hrow hv2
                replace hBw := hBw.trans (hv2.mono hBw.size)
                have C3 := clone_any t.tx v2 htx
                obtain ⟨x0, x1, x2, x3, x4⟩ := hbt.cells
                go_wp2_with fail
                refine C3.mono ?_
                rintro e v3 ⟨rfl, hv3⟩
                clear C3 x0 x1 x2 x3 x4
                replace hbt := hbt.below hv3
                replace hbu := hbu.below hv3
                replace hrow := row_below hrow hv3
                replace hBw := hBw.trans (hv3.mono hBw.size)
                go_wp2_with (first
                  | (at_builtin; refine wpList_append_own _ rfl _ _ 22 rfl w.heap.size 9 i0 (.string ⟨#[]⟩) 1 16 Tryz.underlying22 hi hz0 hz1 hz2 rfl (by decide) _ _ _ rfl (hrow.alloc _) ⟨v3.heap.size, 0, none⟩ 1 1 [.string t.tx] rfl rfl (cellS_new _ _ _) (by simp [Value.oneCell']) (by unfold maxLen; omega) (by omega) (by have := hBw.size; simp; omega) ?_; intro pv v4 hrow2 hgrow hn3; clear hn3; have hbu2 := (hbu.below (below1 _ (.cells #[.string t.tx] 9))).grown hgrow (fun e => by have := HBO.out Q e.symm; omega); obtain ⟨y0, y1, y2, y3, y4⟩ := hbu2.cells)
                  | fail)
                have hL4 := hrow.lt
                replace hbt := (hbt.below (below1 _ (.cells #[.string t.tx] 9))).grown hgrow (fun e => by have := HBO.out P e.symm; omega)
                replace hbu := hbu2
                clear y0 y1 y2 y3 y4
                replace hBw := (hBw.alloc hBw.size (.cells #[.string t.tx] 9)).grown hgrow (by have := hBw.size; simp; omega) (fun j e => (hL4 j e).1)
                rw [← stV_snoc] at hrow2
                replace hrow := hrow2
                replace HAL := HAL2
                replace HAX := HAX2
                clear hL4 hgrow hrow2
                have C5 := spells_any u 5 [⟨#[44]⟩] 1 1 _ _ rfl (by decide) (strIn_one v4 9 #[.string ⟨#[44]⟩] [⟨#[44]⟩] rfl)
                rw [← isP_eq u ⟨#[44]⟩ [44] (Lib.toList_data _), hco] at C5
                obtain ⟨x0, x1, x2, x3, x4⟩ := hbu.cells
                go_wp2_with fail
                refine C5.mono ?_
                rintro e v5 ⟨rfl, hv5⟩
                replace hv5 := (below1 v4 (.cells #[.string ⟨#[44]⟩] 9)).trans (hv5.mono (below1 v4 (.cells #[.string ⟨#[44]⟩] 9)).size)
                clear C5 x0 x1 x2 x3 x4
                replace hbt := hbt.below hv5
                replace hbu := hbu.below hv5
                replace hrow := row_below hrow hv5
                replace hBw := hBw.trans (hv5.mono hBw.size)
                have hRN : Hid (R = parP (acc ++ [t.tx]) r) := Lib.hid (by rw [HK2.out, if_neg (by rw [hdots]; decide), if_pos hwd, if_pos hco])
                go_wp2
                go_roundg (0)
                case rel => exact ⟨r, acc ++ [t.tx], 0, p + 1, _, _, rfl, rfl, rfl, rfl, by omega, by omega, HRL, HXr, Lib.hid (HAR3.out _), hRN, HAL, HAX, hrow, hBw⟩
                case measure => omega

              | false =>
                cases hcl : isP u [41] with
                | true =>
                  have C1 := spells_any t 5 [⟨#[46, 46, 46]⟩] 1 1 _ _ rfl (by decide) (strIn_one wc 9 #[.string ⟨#[46, 46, 46]⟩] [⟨#[46, 46, 46]⟩] rfl)
                  rw [← isP_eq t ⟨#[46, 46, 46]⟩ [46, 46, 46] (Lib.toList_data _), hdots] at C1
                  obtain ⟨x0, x1, x2, x3, x4⟩ := hbt.cells
                  go_wp2_with fail
                  refine C1.mono ?_
                  rintro e v1 ⟨rfl, hv1⟩
                  replace hv1 := (below1 wc (.cells #[.string ⟨#[46, 46, 46]⟩] 9)).trans (hv1.mono (below1 wc (.cells #[.string ⟨#[46, 46, 46]⟩] 9)).size)
                  clear C1 x0 x1 x2 x3 x4
                  replace hbt := hbt.below hv1
                  replace hbu := hbu.below hv1
                  replace hrow := row_below hrow hv1
                  replace hBw := hBw.trans (hv1.mono hBw.size)
                  have C2 := mayParam_any t v1
                  rw [hwd] at C2
                  obtain ⟨x0, x1, x2, x3, x4⟩ := hbt.cells
                  go_wp2_with fail
                  refine C2.mono ?_
                  rintro e v2 ⟨rfl, hv2⟩
                  clear C2 x0 x1 x2 x3 x4
                  replace hbt := hbt.below hv2
                  replace hbu := hbu.below hv2
                  replace hrow := row_below hrow hv2
                  replace hBw := hBw.trans (hv2.mono hBw.size)
                  have C3 := clone_any t.tx v2 htx
                  obtain ⟨x0, x1, x2, x3, x4⟩ := hbt.cells
                  go_wp2_with fail
                  refine C3.mono ?_
                  rintro e v3 ⟨rfl, hv3⟩
                  clear C3 x0 x1 x2 x3 x4
                  replace hbt := hbt.below hv3
                  replace hbu := hbu.below hv3
                  replace hrow := row_below hrow hv3
                  replace hBw := hBw.trans (hv3.mono hBw.size)
                  go_wp2_with (first
                    | (at_builtin; refine wpList_append_own _ rfl _ _ 22 rfl w.heap.size 9 i0 (.string ⟨#[]⟩) 1 16 Tryz.underlying22 hi hz0 hz1 hz2 rfl (by decide) _ _ _ rfl (hrow.alloc _) ⟨v3.heap.size, 0, none⟩ 1 1 [.string t.tx] rfl rfl (cellS_new _ _ _) (by simp [Value.oneCell']) (by unfold maxLen; omega) (by omega) (by have := hBw.size; simp; omega) ?_; intro pv v4 hrow2 hgrow hn3; clear hn3; have hbu2 := (hbu.below (below1 _ (.cells #[.string t.tx] 9))).grown hgrow (fun e => by have := HBO.out Q e.symm; omega); obtain ⟨y0, y1, y2, y3, y4⟩ := hbu2.cells)
                    | fail)
                  have hL4 := hrow.lt
                  replace hbt := (hbt.below (below1 _ (.cells #[.string t.tx] 9))).grown hgrow (fun e => by have := HBO.out P e.symm; omega)
                  replace hbu := hbu2
                  clear y0 y1 y2 y3 y4
                  replace hBw := (hBw.alloc hBw.size (.cells #[.string t.tx] 9)).grown hgrow (by have := hBw.size; simp; omega) (fun j e => (hL4 j e).1)
                  rw [← stV_snoc] at hrow2
                  replace hrow := hrow2
                  replace HAL := HAL2
                  replace HAX := HAX2
                  clear hL4 hgrow hrow2
                  have C5 := spells_any u 5 [⟨#[44]⟩] 1 1 _ _ rfl (by decide) (strIn_one v4 9 #[.string ⟨#[44]⟩] [⟨#[44]⟩] rfl)
                  rw [← isP_eq u ⟨#[44]⟩ [44] (Lib.toList_data _), hco] at C5
                  obtain ⟨x0, x1, x2, x3, x4⟩ := hbu.cells
                  go_wp2_with fail
                  refine C5.mono ?_
                  rintro e v5 ⟨rfl, hv5⟩
                  replace hv5 := (below1 v4 (.cells #[.string ⟨#[44]⟩] 9)).trans (hv5.mono (below1 v4 (.cells #[.string ⟨#[44]⟩] 9)).size)
                  clear C5 x0 x1 x2 x3 x4
                  replace hbt := hbt.below hv5
                  replace hbu := hbu.below hv5
                  replace hrow := row_below hrow hv5
                  replace hBw := hBw.trans (hv5.mono hBw.size)
                  have C6 := spells_any u 5 [⟨#[41]⟩] 1 1 _ _ rfl (by decide) (strIn_one v5 9 #[.string ⟨#[41]⟩] [⟨#[41]⟩] rfl)
                  rw [← isP_eq u ⟨#[41]⟩ [41] (Lib.toList_data _), hcl] at C6
                  obtain ⟨x0, x1, x2, x3, x4⟩ := hbu.cells
                  go_wp2_with fail
                  refine C6.mono ?_
                  rintro e v6 ⟨rfl, hv6⟩
                  replace hv6 := (below1 v5 (.cells #[.string ⟨#[41]⟩] 9)).trans (hv6.mono (below1 v5 (.cells #[.string ⟨#[41]⟩] 9)).size)
                  clear C6 x0 x1 x2 x3 x4
                  replace hbt := hbt.below hv6
                  replace hbu := hbu.below hv6
                  replace hrow := row_below hrow hv6
                  replace hBw := hBw.trans (hv6.mono hBw.size)
                  have hrl := hrow
                  obtain ⟨pa, pcap, rfl⟩ := row_shape hrl
                  have CSet := setOf_any (acc ++ [t.tx]) (p + 1) pcap pa v6 HAL.out (by omega) (fun s h => Nat.le_trans (HAX.out s h) (by decide)) (strIn_row HAL.out hrl)
                  have hsz := size_setT (acc ++ [t.tx])
                  rw [HAL.out] at hsz
                  go_wp2_with fail
                  refine CSet.mono ?_
                  rintro e wS ⟨⟨BS, rfl, -, hS⟩, hbS⟩
                  have hBS := hBw.trans (hbS.mono hBw.size)
                  have hrl2 := row_below hrl hbS
                  unfold SetIn at hS
                  have hln := hS.len Tryz.underlying133 3
                  by_cases hd : distS (acc ++ [t.tx]) = true
                  · have hz : ¬ (Maps.size (setT (acc ++ [t.tx])) : Int) < ((p + 1) : Int) := by
                      have h2 : ¬ Maps.size (setT (acc ++ [t.tx])) < (p + 1) := fun h => by rw [hsz.2.1 h] at hd; cases hd
                      omega
                    have hRS : Hid (R = some ((acc ++ [t.tx]), false, r)) := Lib.hid (by rw [HK2.out, if_neg (by rw [hdots]; decide), if_pos hwd, if_neg (by rw [hco]; decide), if_pos hcl, finS_yes hd])
                    clear hsz hd
                    go_wp2
                    try rw [Exit.noGoto_ret]
                    (try simp only [Exit.inBlock, Exit.then]); refine bodyPost_ret (results_tmp4 rfl _ _ _) rfl ?_
                    exact CutRes.yes hRS.out HAL.out HRL.out rfl hrl2 (by omega) (HAR3.out _) hBS
                  · have hz : (Maps.size (setT (acc ++ [t.tx])) : Int) < ((p + 1) : Int) := by
                      have h2 := hsz.2.2 (Bool.eq_false_iff.2 hd)
                      omega
                    have hRS : Hid (R = none) := Lib.hid (by rw [HK2.out, if_neg (by rw [hdots]; decide), if_pos hwd, if_neg (by rw [hco]; decide), if_pos hcl, finS_no (Bool.eq_false_iff.2 hd)])
                    clear hsz hd
                    go_wp2
                    try rw [Exit.noGoto_ret]
                    (try simp only [Exit.inBlock, Exit.then]); refine bodyPost_ret (results_tmp4 rfl _ _ _) rfl ?_
                    exact CutRes.no hRS.out rfl hBS

                | false =>
                  have C1 := spells_any t 5 [⟨#[46, 46, 46]⟩] 1 1 _ _ rfl (by decide) (strIn_one wc 9 #[.string ⟨#[46, 46, 46]⟩] [⟨#[46, 46, 46]⟩] rfl)
                  rw [← isP_eq t ⟨#[46, 46, 46]⟩ [46, 46, 46] (Lib.toList_data _), hdots] at C1
                  obtain ⟨x0, x1, x2, x3, x4⟩ := hbt.cells
                  go_wp2_with fail
                  refine C1.mono ?_
                  rintro e v1 ⟨rfl, hv1⟩
                  replace hv1 := (below1 wc (.cells #[.string ⟨#[46, 46, 46]⟩] 9)).trans (hv1.mono (below1 wc (.cells #[.string ⟨#[46, 46, 46]⟩] 9)).size)
                  clear C1 x0 x1 x2 x3 x4
                  replace hbt := hbt.below hv1
                  replace hbu := hbu.below hv1
                  replace hrow := row_below hrow hv1
                  replace hBw := hBw.trans (hv1.mono hBw.size)
                  have C2 := mayParam_any t v1
                  rw [hwd] at C2
                  obtain ⟨x0, x1, x2, x3, x4⟩ := hbt.cells
                  go_wp2_with fail
                  refine C2.mono ?_
                  rintro e v2 ⟨rfl, hv2⟩
                  clear C2 x0 x1 x2 x3 x4
                  replace hbt := hbt.below hv2
                  replace hbu := hbu.below hv2
                  replace hrow := row_below hrow hv2
                  replace hBw := hBw.trans (hv2.mono hBw.size)
                  have C3 := clone_any t.tx v2 htx
                  obtain ⟨x0, x1, x2, x3, x4⟩ := hbt.cells
                  go_wp2_with fail
                  refine C3.mono ?_
                  rintro e v3 ⟨rfl, hv3⟩
                  clear C3 x0 x1 x2 x3 x4
                  replace hbt := hbt.below hv3
                  replace hbu := hbu.below hv3
                  replace hrow := row_below hrow hv3
                  replace hBw := hBw.trans (hv3.mono hBw.size)
                  go_wp2_with (first
                    | (at_builtin; refine wpList_append_own _ rfl _ _ 22 rfl w.heap.size 9 i0 (.string ⟨#[]⟩) 1 16 Tryz.underlying22 hi hz0 hz1 hz2 rfl (by decide) _ _ _ rfl (hrow.alloc _) ⟨v3.heap.size, 0, none⟩ 1 1 [.string t.tx] rfl rfl (cellS_new _ _ _) (by simp [Value.oneCell']) (by unfold maxLen; omega) (by omega) (by have := hBw.size; simp; omega) ?_; intro pv v4 hrow2 hgrow hn3; clear hn3; have hbu2 := (hbu.below (below1 _ (.cells #[.string t.tx] 9))).grown hgrow (fun e => by have := HBO.out Q e.symm; omega); obtain ⟨y0, y1, y2, y3, y4⟩ := hbu2.cells)
                    | fail)
                  have hL4 := hrow.lt
                  replace hbt := (hbt.below (below1 _ (.cells #[.string t.tx] 9))).grown hgrow (fun e => by have := HBO.out P e.symm; omega)
                  replace hbu := hbu2
                  clear y0 y1 y2 y3 y4
                  replace hBw := (hBw.alloc hBw.size (.cells #[.string t.tx] 9)).grown hgrow (by have := hBw.size; simp; omega) (fun j e => (hL4 j e).1)
                  rw [← stV_snoc] at hrow2
                  replace hrow := hrow2
                  replace HAL := HAL2
                  replace HAX := HAX2
                  clear hL4 hgrow hrow2
                  have C5 := spells_any u 5 [⟨#[44]⟩] 1 1 _ _ rfl (by decide) (strIn_one v4 9 #[.string ⟨#[44]⟩] [⟨#[44]⟩] rfl)
                  rw [← isP_eq u ⟨#[44]⟩ [44] (Lib.toList_data _), hco] at C5
                  obtain ⟨x0, x1, x2, x3, x4⟩ := hbu.cells
                  go_wp2_with fail
                  refine C5.mono ?_
                  rintro e v5 ⟨rfl, hv5⟩
                  replace hv5 := (below1 v4 (.cells #[.string ⟨#[44]⟩] 9)).trans (hv5.mono (below1 v4 (.cells #[.string ⟨#[44]⟩] 9)).size)
                  clear C5 x0 x1 x2 x3 x4
                  replace hbt := hbt.below hv5
                  replace hbu := hbu.below hv5
                  replace hrow := row_below hrow hv5
                  replace hBw := hBw.trans (hv5.mono hBw.size)
                  have C6 := spells_any u 5 [⟨#[41]⟩] 1 1 _ _ rfl (by decide) (strIn_one v5 9 #[.string ⟨#[41]⟩] [⟨#[41]⟩] rfl)
                  rw [← isP_eq u ⟨#[41]⟩ [41] (Lib.toList_data _), hcl] at C6
                  obtain ⟨x0, x1, x2, x3, x4⟩ := hbu.cells
                  go_wp2_with fail
                  refine C6.mono ?_
                  rintro e v6 ⟨rfl, hv6⟩
                  replace hv6 := (below1 v5 (.cells #[.string ⟨#[41]⟩] 9)).trans (hv6.mono (below1 v5 (.cells #[.string ⟨#[41]⟩] 9)).size)
                  clear C6 x0 x1 x2 x3 x4
                  replace hbt := hbt.below hv6
                  replace hbu := hbu.below hv6
                  replace hrow := row_below hrow hv6
                  replace hBw := hBw.trans (hv6.mono hBw.size)
                  go_wp2
                  try rw [Exit.noGoto_ret]
                  (try simp only [Exit.inBlock, Exit.then]); refine bodyPost_ret (results_tmp4 rfl _ _ _) rfl ?_
                  exact CutRes.no (by rw [HK2.out, if_neg (by rw [hdots]; decide), if_pos hwd, if_neg (by rw [hco]; decide), if_neg (by rw [hcl]; decide)]) rfl hBw

        · have v5 : ¬ (cr : Int) = 2 := by omega
          have HAR3 : Hid (∀ x, x = (some ⟨b, q + 2 * 5, none⟩ : Option Addr) → ToksAt w B x r) := Lib.hid (fun x hx => by rw [hx]; exact HAR2.out)
          cases hdots : isP t [46, 46, 46] with
          | true =>
            cases hcl : isP u [41] with
            | true =>
              have C1 := spells_any t 5 [⟨#[46, 46, 46]⟩] 1 1 _ _ rfl (by decide) (strIn_one wc 9 #[.string ⟨#[46, 46, 46]⟩] [⟨#[46, 46, 46]⟩] rfl)
              rw [← isP_eq t ⟨#[46, 46, 46]⟩ [46, 46, 46] (Lib.toList_data _), hdots] at C1
              obtain ⟨x0, x1, x2, x3, x4⟩ := hbt.cells
              go_wp2_with fail
              refine C1.mono ?_
              rintro e v1 ⟨rfl, hv1⟩
              replace hv1 := (below1 wc (.cells #[.string ⟨#[46, 46, 46]⟩] 9)).trans (hv1.mono (below1 wc (.cells #[.string ⟨#[46, 46, 46]⟩] 9)).size)
              clear C1 x0 x1 x2 x3 x4
              replace hbt := hbt.below hv1
              replace hbu := hbu.below hv1
              replace hrow := row_below hrow hv1
              replace hBw := hBw.trans (hv1.mono hBw.size)
              have C2 := spells_any u 5 [⟨#[41]⟩] 1 1 _ _ rfl (by decide) (strIn_one v1 9 #[.string ⟨#[41]⟩] [⟨#[41]⟩] rfl)
              rw [← isP_eq u ⟨#[41]⟩ [41] (Lib.toList_data _), hcl] at C2
              obtain ⟨x0, x1, x2, x3, x4⟩ := hbu.cells
              go_wp2_with fail
              refine C2.mono ?_
              rintro e v2 ⟨rfl, hv2⟩
              replace hv2 := (below1 v1 (.cells #[.string ⟨#[41]⟩] 9)).trans (hv2.mono (below1 v1 (.cells #[.string ⟨#[41]⟩] 9)).size)
              clear C2 x0 x1 x2 x3 x4
              replace hbt := hbt.below hv2
              replace hbu := hbu.below hv2
              replace hrow := row_below hrow hv2
              replace hBw := hBw.trans (hv2.mono hBw.size)
              have hrl := hrow
              obtain ⟨pa, pcap, rfl⟩ := row_shape hrl
              have CSet := setOf_any acc p pcap pa v2 HAL.out (by omega) (fun s h => Nat.le_trans (HAX.out s h) (by decide)) (strIn_row HAL.out hrl)
              have hsz := size_setT acc
              rw [HAL.out] at hsz
              go_wp2_with fail
              refine CSet.mono ?_
              rintro e wS ⟨⟨BS, rfl, -, hS⟩, hbS⟩
              have hBS := hBw.trans (hbS.mono hBw.size)
              have hrl2 := row_below hrl hbS
              unfold SetIn at hS
              have hln := hS.len Tryz.underlying133 3
              by_cases hd : distS acc = true
              · have hz : ¬ (Maps.size (setT acc) : Int) < (p : Int) := by
                  have h2 : ¬ Maps.size (setT acc) < p := fun h => by rw [hsz.2.1 h] at hd; cases hd
                  omega
                have hRS : Hid (R = some (acc, true, r)) := Lib.hid (by rw [HK2.out, if_pos hdots, if_pos hcl, finS_yes hd])
                clear hsz hd
                go_wp2
                try rw [Exit.noGoto_ret]
                (try simp only [Exit.inBlock, Exit.then]); refine bodyPost_ret (results_tmp4 rfl _ _ _) rfl ?_
                exact CutRes.yes hRS.out HAL.out HRL.out rfl hrl2 (by omega) (HAR3.out _ rfl) hBS
              · have hz : (Maps.size (setT acc) : Int) < (p : Int) := by
                  have h2 := hsz.2.2 (Bool.eq_false_iff.2 hd)
                  omega
                have hRS : Hid (R = none) := Lib.hid (by rw [HK2.out, if_pos hdots, if_pos hcl, finS_no (Bool.eq_false_iff.2 hd)])
                clear hsz hd
                go_wp2
                try rw [Exit.noGoto_ret]
                (try simp only [Exit.inBlock, Exit.then]); refine bodyPost_ret (results_tmp4 rfl _ _ _) rfl ?_
                exact CutRes.no hRS.out rfl hBS

            | false =>
              have C1 := spells_any t 5 [⟨#[46, 46, 46]⟩] 1 1 _ _ rfl (by decide) (strIn_one wc 9 #[.string ⟨#[46, 46, 46]⟩] [⟨#[46, 46, 46]⟩] rfl)
              rw [← isP_eq t ⟨#[46, 46, 46]⟩ [46, 46, 46] (Lib.toList_data _), hdots] at C1
              obtain ⟨x0, x1, x2, x3, x4⟩ := hbt.cells
              go_wp2_with fail
              refine C1.mono ?_
              rintro e v1 ⟨rfl, hv1⟩
              replace hv1 := (below1 wc (.cells #[.string ⟨#[46, 46, 46]⟩] 9)).trans (hv1.mono (below1 wc (.cells #[.string ⟨#[46, 46, 46]⟩] 9)).size)
              clear C1 x0 x1 x2 x3 x4
              replace hbt := hbt.below hv1
              replace hbu := hbu.below hv1
              replace hrow := row_below hrow hv1
              replace hBw := hBw.trans (hv1.mono hBw.size)
              have C2 := spells_any u 5 [⟨#[41]⟩] 1 1 _ _ rfl (by decide) (strIn_one v1 9 #[.string ⟨#[41]⟩] [⟨#[41]⟩] rfl)
              rw [← isP_eq u ⟨#[41]⟩ [41] (Lib.toList_data _), hcl] at C2
              obtain ⟨x0, x1, x2, x3, x4⟩ := hbu.cells
              go_wp2_with fail
              refine C2.mono ?_
              rintro e v2 ⟨rfl, hv2⟩
              replace hv2 := (below1 v1 (.cells #[.string ⟨#[41]⟩] 9)).trans (hv2.mono (below1 v1 (.cells #[.string ⟨#[41]⟩] 9)).size)
              clear C2 x0 x1 x2 x3 x4
              replace hbt := hbt.below hv2
              replace hbu := hbu.below hv2
              replace hrow := row_below hrow hv2
              replace hBw := hBw.trans (hv2.mono hBw.size)
              go_wp2
              try rw [Exit.noGoto_ret]
              (try simp only [Exit.inBlock, Exit.then]); refine bodyPost_ret (results_tmp4 rfl _ _ _) rfl ?_
              exact CutRes.no (by rw [HK2.out, if_pos hdots, if_neg (by rw [hcl]; decide)]) rfl hBw

          | false =>
            cases hwd : wordP t with
            | false =>
              have C1 := spells_any t 5 [⟨#[46, 46, 46]⟩] 1 1 _ _ rfl (by decide) (strIn_one wc 9 #[.string ⟨#[46, 46, 46]⟩] [⟨#[46, 46, 46]⟩] rfl)
              rw [← isP_eq t ⟨#[46, 46, 46]⟩ [46, 46, 46] (Lib.toList_data _), hdots] at C1
              obtain ⟨x0, x1, x2, x3, x4⟩ := hbt.cells
              go_wp2_with fail
              refine C1.mono ?_
              rintro e v1 ⟨rfl, hv1⟩
              replace hv1 := (below1 wc (.cells #[.string ⟨#[46, 46, 46]⟩] 9)).trans (hv1.mono (below1 wc (.cells #[.string ⟨#[46, 46, 46]⟩] 9)).size)
              clear C1 x0 x1 x2 x3 x4
              replace hbt := hbt.below hv1
              replace hbu := hbu.below hv1
              replace hrow := row_below hrow hv1
              replace hBw := hBw.trans (hv1.mono hBw.size)
              have C2 := mayParam_any t v1
              rw [hwd] at C2
              obtain ⟨x0, x1, x2, x3, x4⟩ := hbt.cells
              go_wp2_with fail
              refine C2.mono ?_
              rintro e v2 ⟨rfl, hv2⟩
              clear C2 x0 x1 x2 x3 x4
              replace hbt := hbt.below hv2
              replace hbu := hbu.below hv2
              replace hrow := row_below hrow hv2
              replace hBw := hBw.trans (hv2.mono hBw.size)
              go_wp2
              try rw [Exit.noGoto_ret]
              (try simp only [Exit.inBlock, Exit.then]); refine bodyPost_ret (results_tmp4 rfl _ _ _) rfl ?_
              exact CutRes.no (by rw [HK2.out, if_neg (by rw [hdots]; decide), if_neg (by rw [hwd]; decide)]) rfl hBw

            | true =>
              cases hco : isP u [44] with
              | true =>
                have C1 := spells_any t 5 [⟨#[46, 46, 46]⟩] 1 1 _ _ rfl (by decide) (strIn_one wc 9 #[.string ⟨#[46, 46, 46]⟩] [⟨#[46, 46, 46]⟩] rfl)
                rw [← isP_eq t ⟨#[46, 46, 46]⟩ [46, 46, 46] (Lib.toList_data _), hdots] at C1
                obtain ⟨x0, x1, x2, x3, x4⟩ := hbt.cells
                go_wp2_with fail
                refine C1.mono ?_
                rintro e v1 ⟨rfl, hv1⟩
                replace hv1 := (below1 wc (.cells #[.string ⟨#[46, 46, 46]⟩] 9)).trans (hv1.mono (below1 wc (.cells #[.string ⟨#[46, 46, 46]⟩] 9)).size)
                clear C1 x0 x1 x2 x3 x4
                replace hbt := hbt.below hv1
                replace hbu := hbu.below hv1
                replace hrow := row_below hrow hv1
                replace hBw := hBw.trans (hv1.mono hBw.size)
                have C2 := mayParam_any t v1
                rw [hwd] at C2
                obtain ⟨x0, x1, x2, x3, x4⟩ := hbt.cells
                go_wp2_with fail
                refine C2.mono ?_
                rintro e v2 ⟨rfl, hv2⟩
                clear C2 x0 x1 x2 x3 x4
                replace hbt := hbt.below hv2
                replace hbu := hbu.below hv2
                replace hrow := row_below hrow hv2
                replace hBw := hBw.trans (hv2.mono hBw.size)
                have C3 := clone_any t.tx v2 htx
                obtain ⟨x0, x1, x2, x3, x4⟩ := hbt.cells
                go_wp2_with fail
                refine C3.mono ?_
                rintro e v3 ⟨rfl, hv3⟩
                clear C3 x0 x1 x2 x3 x4
                replace hbt := hbt.below hv3
                replace hbu := hbu.below hv3
                replace hrow := row_below hrow hv3
                replace hBw := hBw.trans (hv3.mono hBw.size)
                go_wp2_with (first
                  | (at_builtin; refine wpList_append_own _ rfl _ _ 22 rfl w.heap.size 9 i0 (.string ⟨#[]⟩) 1 16 Tryz.underlying22 hi hz0 hz1 hz2 rfl (by decide) _ _ _ rfl (hrow.alloc _) ⟨v3.heap.size, 0, none⟩ 1 1 [.string t.tx] rfl rfl (cellS_new _ _ _) (by simp [Value.oneCell']) (by unfold maxLen; omega) (by omega) (by have := hBw.size; simp; omega) ?_; intro pv v4 hrow2 hgrow hn3; clear hn3; have hbu2 := (hbu.below (below1 _ (.cells #[.string t.tx] 9))).grown hgrow (fun e => by have := HBO.out Q e.symm; omega); obtain ⟨y0, y1, y2, y3, y4⟩ := hbu2.cells)
                  | fail)
                have hL4 := hrow.lt
                replace hbt := (hbt.below (below1 _ (.cells #[.string t.tx] 9))).grown hgrow (fun e => by have := HBO.out P e.symm; omega)
                replace hbu := hbu2
                clear y0 y1 y2 y3 y4
                replace hBw := (hBw.alloc hBw.size (.cells #[.string t.tx] 9)).grown hgrow (by have := hBw.size; simp; omega) (fun j e => (hL4 j e).1)
                rw [← stV_snoc] at hrow2
                replace hrow := hrow2
                replace HAL := HAL2
                replace HAX := HAX2
                clear hL4 hgrow hrow2
                have C5 := spells_any u 5 [⟨#[44]⟩] 1 1 _ _ rfl (by decide) (strIn_one v4 9 #[.string ⟨#[44]⟩] [⟨#[44]⟩] rfl)
                rw [← isP_eq u ⟨#[44]⟩ [44] (Lib.toList_data _), hco] at C5
                obtain ⟨x0, x1, x2, x3, x4⟩ := hbu.cells
                go_wp2_with fail
                refine C5.mono ?_
                rintro e v5 ⟨rfl, hv5⟩
                replace hv5 := (below1 v4 (.cells #[.string ⟨#[44]⟩] 9)).trans (hv5.mono (below1 v4 (.cells #[.string ⟨#[44]⟩] 9)).size)
                clear C5 x0 x1 x2 x3 x4
                replace hbt := hbt.below hv5
                replace hbu := hbu.below hv5
                replace hrow := row_below hrow hv5
                replace hBw := hBw.trans (hv5.mono hBw.size)
                have hRN : Hid (R = parP (acc ++ [t.tx]) r) := Lib.hid (by rw [HK2.out, if_neg (by rw [hdots]; decide), if_pos hwd, if_pos hco])
                go_wp2
                go_roundg (m - 2)
                case rel => exact ⟨r, acc ++ [t.tx], m - 2, p + 1, _, _, rfl, rfl, rfl, rfl, by omega, by omega, HRL, HXr, Lib.hid (HAR3.out _ rfl), hRN, HAL, HAX, hrow, hBw⟩
                case measure => omega

              | false =>
                cases hcl : isP u [41] with
                | true =>
                  have C1 := spells_any t 5 [⟨#[46, 46, 46]⟩] 1 1 _ _ rfl (by decide) (strIn_one wc 9 #[.string ⟨#[46, 46, 46]⟩] [⟨#[46, 46, 46]⟩] rfl)
                  rw [← isP_eq t ⟨#[46, 46, 46]⟩ [46, 46, 46] (Lib.toList_data _), hdots] at C1
                  obtain ⟨x0, x1, x2, x3, x4⟩ := hbt.cells
                  go_wp2_with fail
                  refine C1.mono ?_
                  rintro e v1 ⟨rfl, hv1⟩
                  replace hv1 := (below1 wc (.cells #[.string ⟨#[46, 46, 46]⟩] 9)).trans (hv1.mono (below1 wc (.cells #[.string ⟨#[46, 46, 46]⟩] 9)).size)
                  clear C1 x0 x1 x2 x3 x4
                  replace hbt := hbt.below hv1
                  replace hbu := hbu.below hv1
                  replace hrow := row_below hrow hv1
                  replace hBw := hBw.trans (hv1.mono hBw.size)
                  have C2 := mayParam_any t v1
                  rw [hwd] at C2
                  obtain ⟨x0, x1, x2, x3, x4⟩ := hbt.cells
                  go_wp2_with fail
                  refine C2.mono ?_
                  rintro e v2 ⟨rfl, hv2⟩
                  clear C2 x0 x1 x2 x3 x4
                  replace hbt := hbt.below hv2
                  replace hbu := hbu.below hv2
                  replace hrow := row_below hrow hv2
                  replace hBw := hBw.trans (hv2.mono hBw.size)
                  have C3 := clone_any t.tx v2 htx
                  obtain ⟨x0, x1, x2, x3, x4⟩ := hbt.cells
                  go_wp2_with fail
                  refine C3.mono ?_
                  rintro e v3 ⟨rfl, hv3⟩
                  clear C3 x0 x1 x2 x3 x4
                  replace hbt := hbt.below hv3
                  replace hbu := hbu.below hv3
                  replace hrow := row_below hrow hv3
                  replace hBw := hBw.trans (hv3.mono hBw.size)
                  go_wp2_with (first
                    | (at_builtin; refine wpList_append_own _ rfl _ _ 22 rfl w.heap.size 9 i0 (.string ⟨#[]⟩) 1 16 Tryz.underlying22 hi hz0 hz1 hz2 rfl (by decide) _ _ _ rfl (hrow.alloc _) ⟨v3.heap.size, 0, none⟩ 1 1 [.string t.tx] rfl rfl (cellS_new _ _ _) (by simp [Value.oneCell']) (by unfold maxLen; omega) (by omega) (by have := hBw.size; simp; omega) ?_; intro pv v4 hrow2 hgrow hn3; clear hn3; have hbu2 := (hbu.below (below1 _ (.cells #[.string t.tx] 9))).grown hgrow (fun e => by have := HBO.out Q e.symm; omega); obtain ⟨y0, y1, y2, y3, y4⟩ := hbu2.cells)
                    | fail)
                  have hL4 := hrow.lt
                  replace hbt := (hbt.below (below1 _ (.cells #[.string t.tx] 9))).grown hgrow (fun e => by have := HBO.out P e.symm; omega)
                  replace hbu := hbu2
                  clear y0 y1 y2 y3 y4
                  replace hBw := (hBw.alloc hBw.size (.cells #[.string t.tx] 9)).grown hgrow (by have := hBw.size; simp; omega) (fun j e => (hL4 j e).1)
                  rw [← stV_snoc] at hrow2
                  replace hrow := hrow2
                  replace HAL := HAL2
                  replace HAX := HAX2
                  clear hL4 hgrow hrow2
                  have C5 := spells_any u 5 [⟨#[44]⟩] 1 1 _ _ rfl (by decide) (strIn_one v4 9 #[.string ⟨#[44]⟩] [⟨#[44]⟩] rfl)
                  rw [← isP_eq u ⟨#[44]⟩ [44] (Lib.toList_data _), hco] at C5
                  obtain ⟨x0, x1, x2, x3, x4⟩ := hbu.cells
                  go_wp2_with fail
                  refine C5.mono ?_
                  rintro e v5 ⟨rfl, hv5⟩
                  replace hv5 := (below1 v4 (.cells #[.string ⟨#[44]⟩] 9)).trans (hv5.mono (below1 v4 (.cells #[.string ⟨#[44]⟩] 9)).size)
                  clear C5 x0 x1 x2 x3 x4
                  replace hbt := hbt.below hv5
                  replace hbu := hbu.below hv5
                  replace hrow := row_below hrow hv5
                  replace hBw := hBw.trans (hv5.mono hBw.size)
                  have C6 := spells_any u 5 [⟨#[41]⟩] 1 1 _ _ rfl (by decide) (strIn_one v5 9 #[.string ⟨#[41]⟩] [⟨#[41]⟩] rfl)
                  rw [← isP_eq u ⟨#[41]⟩ [41] (Lib.toList_data _), hcl] at C6
                  obtain ⟨x0, x1, x2, x3, x4⟩ := hbu.cells
                  go_wp2_with fail
                  refine C6.mono ?_
                  rintro e v6 ⟨rfl, hv6⟩
                  replace hv6 := (below1 v5 (.cells #[.string ⟨#[41]⟩] 9)).trans (hv6.mono (below1 v5 (.cells #[.string ⟨#[41]⟩] 9)).size)
                  clear C6 x0 x1 x2 x3 x4
                  replace hbt := hbt.below hv6
                  replace hbu := hbu.below hv6
                  replace hrow := row_below hrow hv6
                  replace hBw := hBw.trans (hv6.mono hBw.size)
                  have hrl := hrow
                  obtain ⟨pa, pcap, rfl⟩ := row_shape hrl
                  have CSet := setOf_any (acc ++ [t.tx]) (p + 1) pcap pa v6 HAL.out (by omega) (fun s h => Nat.le_trans (HAX.out s h) (by decide)) (strIn_row HAL.out hrl)
                  have hsz := size_setT (acc ++ [t.tx])
                  rw [HAL.out] at hsz
                  go_wp2_with fail
                  refine CSet.mono ?_
                  rintro e wS ⟨⟨BS, rfl, -, hS⟩, hbS⟩
                  have hBS := hBw.trans (hbS.mono hBw.size)
                  have hrl2 := row_below hrl hbS
                  unfold SetIn at hS
                  have hln := hS.len Tryz.underlying133 3
                  by_cases hd : distS (acc ++ [t.tx]) = true
                  · have hz : ¬ (Maps.size (setT (acc ++ [t.tx])) : Int) < ((p + 1) : Int) := by
                      have h2 : ¬ Maps.size (setT (acc ++ [t.tx])) < (p + 1) := fun h => by rw [hsz.2.1 h] at hd; cases hd
                      omega
                    have hRS : Hid (R = some ((acc ++ [t.tx]), false, r)) := Lib.hid (by rw [HK2.out, if_neg (by rw [hdots]; decide), if_pos hwd, if_neg (by rw [hco]; decide), if_pos hcl, finS_yes hd])
                    clear hsz hd
                    go_wp2
                    try rw [Exit.noGoto_ret]
                    (try simp only [Exit.inBlock, Exit.then]); refine bodyPost_ret (results_tmp4 rfl _ _ _) rfl ?_
                    exact CutRes.yes hRS.out HAL.out HRL.out rfl hrl2 (by omega) (HAR3.out _ rfl) hBS
                  · have hz : (Maps.size (setT (acc ++ [t.tx])) : Int) < ((p + 1) : Int) := by
                      have h2 := hsz.2.2 (Bool.eq_false_iff.2 hd)
                      omega
                    have hRS : Hid (R = none) := Lib.hid (by rw [HK2.out, if_neg (by rw [hdots]; decide), if_pos hwd, if_neg (by rw [hco]; decide), if_pos hcl, finS_no (Bool.eq_false_iff.2 hd)])
                    clear hsz hd
                    go_wp2
                    try rw [Exit.noGoto_ret]
                    (try simp only [Exit.inBlock, Exit.then]); refine bodyPost_ret (results_tmp4 rfl _ _ _) rfl ?_
                    exact CutRes.no hRS.out rfl hBS

                | false =>
                  have C1 := spells_any t 5 [⟨#[46, 46, 46]⟩] 1 1 _ _ rfl (by decide) (strIn_one wc 9 #[.string ⟨#[46, 46, 46]⟩] [⟨#[46, 46, 46]⟩] rfl)
                  rw [← isP_eq t ⟨#[46, 46, 46]⟩ [46, 46, 46] (Lib.toList_data _), hdots] at C1
                  obtain ⟨x0, x1, x2, x3, x4⟩ := hbt.cells
                  go_wp2_with fail
                  refine C1.mono ?_
                  rintro e v1 ⟨rfl, hv1⟩
                  replace hv1 := (below1 wc (.cells #[.string ⟨#[46, 46, 46]⟩] 9)).trans (hv1.mono (below1 wc (.cells #[.string ⟨#[46, 46, 46]⟩] 9)).size)
                  clear C1 x0 x1 x2 x3 x4
                  replace hbt := hbt.below hv1
                  replace hbu := hbu.below hv1
                  replace hrow := row_below hrow hv1
                  replace hBw := hBw.trans (hv1.mono hBw.size)
                  have C2 := mayParam_any t v1
                  rw [hwd] at C2
                  obtain ⟨x0, x1, x2, x3, x4⟩ := hbt.cells
                  go_wp2_with fail
                  refine C2.mono ?_
                  rintro e v2 ⟨rfl, hv2⟩
                  clear C2 x0 x1 x2 x3 x4
                  replace hbt := hbt.below hv2
                  replace hbu := hbu.below hv2
                  replace hrow := row_below hrow hv2
                  replace hBw := hBw.trans (hv2.mono hBw.size)
                  have C3 := clone_any t.tx v2 htx
                  obtain ⟨x0, x1, x2, x3, x4⟩ := hbt.cells
                  go_wp2_with fail
                  refine C3.mono ?_
                  rintro e v3 ⟨rfl, hv3⟩
                  clear C3 x0 x1 x2 x3 x4
                  replace hbt := hbt.below hv3
                  replace hbu := hbu.below hv3
                  replace hrow := row_below hrow hv3
                  replace hBw := hBw.trans (hv3.mono hBw.size)
                  go_wp2_with (first
                    | (at_builtin; refine wpList_append_own _ rfl _ _ 22 rfl w.heap.size 9 i0 (.string ⟨#[]⟩) 1 16 Tryz.underlying22 hi hz0 hz1 hz2 rfl (by decide) _ _ _ rfl (hrow.alloc _) ⟨v3.heap.size, 0, none⟩ 1 1 [.string t.tx] rfl rfl (cellS_new _ _ _) (by simp [Value.oneCell']) (by unfold maxLen; omega) (by omega) (by have := hBw.size; simp; omega) ?_; intro pv v4 hrow2 hgrow hn3; clear hn3; have hbu2 := (hbu.below (below1 _ (.cells #[.string t.tx] 9))).grown hgrow (fun e => by have := HBO.out Q e.symm; omega); obtain ⟨y0, y1, y2, y3, y4⟩ := hbu2.cells)
                    | fail)
                  have hL4 := hrow.lt
                  replace hbt := (hbt.below (below1 _ (.cells #[.string t.tx] 9))).grown hgrow (fun e => by have := HBO.out P e.symm; omega)
                  replace hbu := hbu2
                  clear y0 y1 y2 y3 y4
                  replace hBw := (hBw.alloc hBw.size (.cells #[.string t.tx] 9)).grown hgrow (by have := hBw.size; simp; omega) (fun j e => (hL4 j e).1)
                  rw [← stV_snoc] at hrow2
                  replace hrow := hrow2
                  replace HAL := HAL2
                  replace HAX := HAX2
                  clear hL4 hgrow hrow2
                  have C5 := spells_any u 5 [⟨#[44]⟩] 1 1 _ _ rfl (by decide) (strIn_one v4 9 #[.string ⟨#[44]⟩] [⟨#[44]⟩] rfl)
                  rw [← isP_eq u ⟨#[44]⟩ [44] (Lib.toList_data _), hco] at C5
                  obtain ⟨x0, x1, x2, x3, x4⟩ := hbu.cells
                  go_wp2_with fail
                  refine C5.mono ?_
                  rintro e v5 ⟨rfl, hv5⟩
                  replace hv5 := (below1 v4 (.cells #[.string ⟨#[44]⟩] 9)).trans (hv5.mono (below1 v4 (.cells #[.string ⟨#[44]⟩] 9)).size)
                  clear C5 x0 x1 x2 x3 x4
                  replace hbt := hbt.below hv5
                  replace hbu := hbu.below hv5
                  replace hrow := row_below hrow hv5
                  replace hBw := hBw.trans (hv5.mono hBw.size)
                  have C6 := spells_any u 5 [⟨#[41]⟩] 1 1 _ _ rfl (by decide) (strIn_one v5 9 #[.string ⟨#[41]⟩] [⟨#[41]⟩] rfl)
                  rw [← isP_eq u ⟨#[41]⟩ [41] (Lib.toList_data _), hcl] at C6
                  obtain ⟨x0, x1, x2, x3, x4⟩ := hbu.cells
                  go_wp2_with fail
                  refine C6.mono ?_
                  rintro e v6 ⟨rfl, hv6⟩
                  replace hv6 := (below1 v5 (.cells #[.string ⟨#[41]⟩] 9)).trans (hv6.mono (below1 v5 (.cells #[.string ⟨#[41]⟩] 9)).size)
                  clear C6 x0 x1 x2 x3 x4
                  replace hbt := hbt.below hv6
                  replace hbu := hbu.below hv6
                  replace hrow := row_below hrow hv6
                  replace hBw := hBw.trans (hv6.mono hBw.size)
                  go_wp2
                  try rw [Exit.noGoto_ret]
                  (try simp only [Exit.inBlock, Exit.then]); refine bodyPost_ret (results_tmp4 rfl _ _ _) rfl ?_
                  exact CutRes.no (by rw [HK2.out, if_neg (by rw [hdots]; decide), if_pos hwd, if_neg (by rw [hco]; decide), if_neg (by rw [hcl]; decide)]) rfl hBw


    · have hRN : Hid (R = none) := Lib.hid (by
        rw [HK.out]
        have hm := HM.out
        match Lx, hm with
        | [], _ => rfl
        | [x], _ => rfl
        | x :: y :: z, h => simp only [List.length_cons] at h; omega)
      have j1 : ¬ (1 : Int) < (m : Int) := by omega
      clear HK
      go_wp2
      try rw [Exit.noGoto_ret]
      (try simp only [Exit.inBlock, Exit.then]); refine bodyPost_ret (results_tmp4 rfl _ _ _) rfl ?_
      exact CutRes.no hRN.out rfl hbx


end Go.Proofs.YtaodjipnffgihaaGreat
