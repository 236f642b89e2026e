/- macro.Define. -/
import Derived.Test.YtaodjipnffgihaaGreatMcI
namespace Go.Proofs.YtaodjipnffgihaaGreat
open Go.RowKit Go.Shelf

theorem parP_mem : ∀ (k : Nat) (l : List Tz) (acc : List ByteArray) (x : List ByteArray × Bool × List Tz), l.length ≤ k → parP acc l = some x → (∀ s ∈ x.1, s ∈ acc ∨ ∃ t ∈ l, s = t.tx) ∧ ∀ t ∈ x.2.2, t ∈ l
  | k, [], acc, x, _, h => by unfold parP at h; cases h
  | k, [t], acc, x, _, h => by unfold parP at h; cases h
  | 0, t :: u :: l, acc, x, hk, h => by simp at hk
  | k + 1, t :: u :: l, acc, x, hk, h => by
    rw [parP_two] at h
    have hf : ∀ (a : List ByteArray) (v : Bool), (∀ s ∈ a, s ∈ acc ∨ ∃ q ∈ t :: u :: l, s = q.tx) → finS a v l = some x → (∀ s ∈ x.1, s ∈ acc ∨ ∃ q ∈ t :: u :: l, s = q.tx) ∧ ∀ q ∈ x.2.2, q ∈ t :: u :: l := by
      intro a v ha h
      unfold finS at h
      split at h
      · cases h
        exact ⟨ha, fun q hq => List.mem_cons_of_mem _ (List.mem_cons_of_mem _ hq)⟩
      · cases h
    have ha2 : ∀ s ∈ acc ++ [t.tx], s ∈ acc ∨ ∃ q ∈ t :: u :: l, s = q.tx := fun s hs => by
      rcases List.mem_append.1 hs with h | h
      · exact .inl h
      · exact .inr ⟨t, List.mem_cons_self, List.mem_singleton.1 h⟩
    split at h
    · split at h
      · exact hf _ _ (fun s hs => .inl hs) h
      · cases h
    · split at h
      · split at h
        · obtain ⟨h1, h2⟩ := parP_mem k l (acc ++ [t.tx]) x (by simp only [List.length_cons] at hk; omega) h
          refine ⟨fun s hs => ?_, fun q hq => List.mem_cons_of_mem _ (List.mem_cons_of_mem _ (h2 q hq))⟩
          rcases h1 s hs with h | ⟨q, hq, e⟩
          · exact ha2 s h
          · exact .inr ⟨q, List.mem_cons_of_mem _ (List.mem_cons_of_mem _ hq), e⟩
        · split at h
          · exact hf _ _ ha2 h
          · cases h
      · cases h
/-- How great the parts of a head are. -/
theorem headS_fit {ts l : List Tz} {m : Mz} (h : headS ts = some (m, l)) : l.length ≤ ts.length ∧ m.ps.length ≤ ts.length ∧ (∀ s ∈ m.ps, ∃ t ∈ ts, s = t.tx) ∧ (∀ t ∈ l, t ∈ ts) ∧ m.bs = [] := by
  unfold headS at h
  cases ts with
  | nil => cases h
  | cons t r =>
    simp only at h
    split at h
    · cases r with
      | nil => cases h; exact ⟨Nat.zero_le _, Nat.zero_le _, (fun s hs => by cases hs), (fun q hq => by cases hq), rfl⟩
      | cons u r' =>
        simp only at h
        split at h
        · cases h; exact ⟨Nat.le_succ _, Nat.zero_le _, (fun s hs => by cases hs), (fun q hq => List.mem_cons_of_mem _ hq), rfl⟩
        · split at h
          · cases hc : cutP r' with
            | none => rw [hc] at h; cases h
            | some x =>
              obtain ⟨p, v, b⟩ := x
              rw [hc] at h
              cases h
              unfold cutP at hc
              cases r' with
              | nil => cases hc
              | cons q r'' =>
                simp only at hc
                split at hc
                · cases hc
                  exact ⟨by simp only [List.length_cons]; omega, Nat.zero_le _, (fun s hs => by cases hs), (fun x hx => List.mem_cons_of_mem _ (List.mem_cons_of_mem _ (List.mem_cons_of_mem _ hx))), rfl⟩
                · have h1 := parP_len _ _ _ _ (Nat.le_refl _) hc
                  have h2 := parP_mem _ _ _ _ (Nat.le_refl _) hc
                  simp only [List.length_cons, List.length_nil] at h1 ⊢
                  refine ⟨by omega, by omega, fun s hs => ?_, fun x hx => List.mem_cons_of_mem _ (List.mem_cons_of_mem _ (h2.2 x hx)), by first | rfl | trivial⟩
                  rcases h2.1 s hs with h | ⟨x, hx, e⟩
                  · cases h
                  · exact ⟨x, List.mem_cons_of_mem _ (List.mem_cons_of_mem _ hx), e⟩
          · cases h
    · cases h

theorem cutHead_any (ts : List Tz) (n cap : Nat) (a : Option Addr) (w : World) (hn : ts.length = n) (hnc : n ≤ cap) (hn2 : n * 48 ≤ 140737488355328) (hx : ∀ x ∈ ts, x.tx.size ≤ 281474976710656) (hT : TzIn w a ts) :
    Calls Tryz.prog 55 #[.slice a n cap] w (HeadRes w (headS ts)) := by
  match ts, hn, hx, hT with
  | [], hn, _, _ =>
    obtain rfl : n = 0 := hn.symm
    exact cutHead_nil cap a w
  | t :: r, hn, hx, hT =>
    cases hnm : nameP t with
    | false => exact cutHead_bad t r n cap a w hn hnc hn2 hx hT hnm
    | true =>
      match r, hn, hx, hT with
      | [], hn, hx, hT => exact cutHead_one t n cap a w hn hnc hn2 hx hT hnm
      | u :: r, hn, hx, hT => exact cutHead_more t u r n cap a w hn hnc hn2 hx hT hnm

/-- What Define answers. -/
def DefRes (w : World) (x : Option Mz) (e : Ending) (w' : World) : Prop :=
  (match x with
    | none => e = .returned (.tuple #[.agg #[.string ⟨#[]⟩, .bool false, .slice none 0 0, .bool false, .slice none 0 0], .int .i64 50])
    | some m => ∃ v u, e = .returned (.tuple #[.agg #[.string m.nm, .bool m.fn, v, .bool m.vr, u], .int .i64 0]) ∧ w'.ownsRow w.heap.size 9 1 v m.ps.length (stV m.ps) ∧ w'.ownsRow w.heap.size 35 4 u m.bs.length (pnCells m.bs)) ∧ Below w.heap.size w w'
theorem DefRes.no {w w' : World} {x : Option Mz} {e : Ending} (hx : x = none) (he : e = .returned (.tuple #[.agg #[.string ⟨#[]⟩, .bool false, .slice none 0 0, .bool false, .slice none 0 0], .int .i64 50])) (hb : Below w.heap.size w w') : DefRes w x e w' := by
  subst hx; exact ⟨he, hb⟩
theorem DefRes.yes {w w' : World} {x : Option Mz} {e : Ending} {nm : ByteArray} {fn vr : Bool} {ps : List ByteArray} {bs : List Pz} {pn k : Nat} {v u : Value} (hx : x = some ⟨nm, fn, ps, vr, bs⟩) (hp : ps.length = pn) (hk : bs.length = k) (he : e = .returned (.tuple #[.agg #[.string nm, .bool fn, v, .bool vr, u], .int .i64 0])) (hr : w'.ownsRow w.heap.size 9 1 v pn (stV ps)) (hu : w'.ownsRow w.heap.size 35 4 u k (pnCells bs)) (hb : Below w.heap.size w w') : DefRes w x e w' := by
  subst hx hp hk; exact ⟨⟨v, u, he, hr, hu⟩, hb⟩
theorem MzBox.far {W : World} {P g i : Nat} {a b c d e u : Value} (h : MzBox W P a b c d e) (hne : g ≠ P) : MzBox (W.setCell ⟨g, i, none⟩ u) P a b c d e := by
  unfold MzBox at h ⊢
  rw [Below.heap_setCell _ _ _ _ (fun e => hne e.symm)]
  exact h
theorem row_lower0 {w : World} {b b' n : Nat} {e : TypeId} {size : Nat} {v : Value} {xs : List Value} (hb : b' ≤ b) (h : w.ownsRow b e size v n xs) : w.ownsRow b' e size v n xs := by
  refine ⟨h.1, ?_⟩
  rcases h.2 with h1 | ⟨g, cap, cur, h1, h2, h3⟩
  · exact .inl h1
  · exact .inr ⟨g, cap, cur, h1, Nat.le_trans hb h2, h3⟩
theorem pn_first {W : World} {B g n cap : Nat} {p : Pz} {ps : List Pz} (h : W.ownsRow B 35 4 (.slice (some ⟨g, 0, none⟩) n cap) n (pnCells (p :: ps))) :
    (W.setCell ⟨g, 2, none⟩ (.bool false)).ownsRow B 35 4 (.slice (some ⟨g, 0, none⟩) n cap) n (pnCells (firstNo (p :: ps))) := by
  obtain ⟨h1, _⟩ := h.stored 2 (.bool false)
  exact h1

set_option maxRecDepth 100000 in
set_option maxHeartbeats 8000000 in
theorem define_any (ts : List Tz) (n cap : Nat) (a : Option Addr) (w : World) (hn : ts.length = n) (hnc : n ≤ cap) (hn2 : n * 48 ≤ 140737488355328) (hx : ∀ t ∈ ts, t.tx.size ≤ 281474976710656) (hT : TzIn w a ts) :
    Calls Tryz.prog 34 #[.slice a n cap] w (DefRes w (defineS ts)) := by
  have hb0 := below1 w (.cells #[.string ⟨#[]⟩, .bool false, .slice none 0 0, .bool false, .slice none 0 0] 25)
  have hR0 := MzBox.new w (.string ⟨#[]⟩) (.bool false) (.slice none 0 0) (.bool false) (.slice none 0 0)
  have CH := cutHead_any ts n cap a (w.alloc (.cells #[.string ⟨#[]⟩, .bool false, .slice none 0 0, .bool false, .slice none 0 0] 25)) hn hnc hn2 hx (hT.below hb0)
  have hD : defineS ts = match headS ts with
    | none => none
    | some (m, b) => if mayB m.fn m.vr m.ps b then some { m with bs := firstNo (b.map pzOf) } else none := rfl
  obtain ⟨X, hX⟩ : ∃ X, defineS ts = X := ⟨_, rfl⟩
  rw [hX] at hD
  rw [hX]
  have HD := Lib.hid hD
  clear hX hD
  cases hh : headS ts with
  | none =>
    have HN : Hid (X = none) := Lib.hid (by rw [HD.out, hh])
    rw [hh] at CH
    clear hn hx hT hh HD
    go_enter Tryz.func34, Tryz.ntmps34
    go_wp2_with fail
    refine CH.mono ?_
    rintro e w1 ⟨rfl, hb1⟩
    have hB1 := hb0.trans (hb1.mono hb0.size)
    have hR2 := (hR0.below hb1).below (below1 w1 (.cells #[.string ⟨#[]⟩, .bool false, .slice none 0 0, .bool false, .slice none 0 0] 25))
    have hB2 := hB1.alloc hB1.size (.cells #[.string ⟨#[]⟩, .bool false, .slice none 0 0, .bool false, .slice none 0 0] 25)
    obtain ⟨z0, z1, z2, z3, z4, f0, f1, f2, f3, f4⟩ := hR2.facts
    go_wp2
    refine bodyPost_ret (v := .tuple #[.agg #[.string ⟨#[]⟩, .bool false, .slice none 0 0, .bool false, .slice none 0 0], .int .i64 50]) (by simp [results, Tryz.results34, go_sem, z0, z1, z2, z3, z4]) rfl ?_
    exact DefRes.no HN.out rfl (below_set5 hB2 (Nat.le_refl _))
  | some x =>
    obtain ⟨m, l⟩ := x
    obtain ⟨g1, g2, g3, g4, g5⟩ := headS_fit hh
    have HD2 : Hid (X = if mayB m.fn m.vr m.ps l then some { m with bs := firstNo (l.map pzOf) } else none) := Lib.hid (by rw [HD.out, hh])
    rw [hh] at CH
    have hpx : ∀ s ∈ m.ps, s.size ≤ maxLen := fun s hs => by
      obtain ⟨t, ht, e⟩ := g3 s hs
      rw [e]
      exact Nat.le_trans (hx t ht) (by decide)
    have hlx : ∀ t ∈ l, t.tx.size ≤ 281474976710656 := fun t ht => hx t (g4 t ht)
    obtain ⟨k, hk⟩ : ∃ k, l.length = k := ⟨_, rfl⟩
    obtain ⟨pn, hpn⟩ : ∃ pn, m.ps.length = pn := ⟨_, rfl⟩
    rw [hn] at g1 g2
    rw [hk] at g1
    rw [hpn] at g2
    have HK := Lib.hid hk
    have HPN := Lib.hid hpn
    have HPX := Lib.hid hpx
    have HLX := Lib.hid hlx
    clear hn hx hT hh HD hpx hlx g3 g4 g5
    go_enter Tryz.func34, Tryz.ntmps34
    go_wp2_with fail
    refine CH.mono ?_
    rintro e w1 ⟨⟨pv, a1, c1, rfl, hrow1, hc1, ht1⟩, hb1⟩
    rw [HPN.out] at hrow1
    rw [HK.out] at hc1
    rw [HK.out]
    obtain ⟨pa, pc, rfl⟩ := row_shape hrow1
    have hB1 := hb0.trans (hb1.mono hb0.size)
    have hbM := below1 w1 (.cells #[.string m.nm, .bool m.fn, .slice pa pn pc, .bool m.vr, .slice none 0 0] 25)
    have hR2 := (hR0.below hb1).below hbM
    have hB2 := hB1.alloc hB1.size (.cells #[.string m.nm, .bool m.fn, .slice pa pn pc, .bool m.vr, .slice none 0 0] 25)
    have hM2 := MzBox.new w1 (.string m.nm) (.bool m.fn) (.slice pa pn pc) (.bool m.vr) (.slice none 0 0)
    have hrow2 := row_below hrow1 hbM
    have HT2 : Hid (∀ W, Below (w1.alloc (.cells #[.string m.nm, .bool m.fn, .slice pa pn pc, .bool m.vr, .slice none 0 0] 25)).heap.size (w1.alloc (.cells #[.string m.nm, .bool m.fn, .slice pa pn pc, .bool m.vr, .slice none 0 0] 25)) W → TzIn W a1 l) := Lib.hid (fun W h => by
      have h2 := (hb1.trans (hbM.mono hb1.size)).trans (h.mono (hb1.trans (hbM.mono hb1.size)).size)
      exact (ToksAt.below ht1 h2).mono h2.size)
    have hs12 : w.heap.size < w1.heap.size := (Array.getElem?_eq_some_iff.1 (hR0.below hb1)).1
    have hl1 := hrow1.lt
    rw [World.size_alloc] at hl1
    clear CH hR0 hb1 hbM ht1 hb0 hB1 hrow1
    have CB := mayBody_any m.nm m.fn m.vr m.ps pa pn pc (.slice none 0 0) l k c1 a1 _ HK.out hc1 (by omega) (fun t h => Nat.le_trans (HLX.out t h) (by decide)) (HT2.out _ (Below.refl _ _)) HPN.out (by omega) HPX.out (strIn_row HPN.out hrow2)
    cases hmb : mayB m.fn m.vr m.ps l with
    | false =>
      have HN : Hid (X = none) := Lib.hid (by rw [HD2.out, hmb]; rfl)
      rw [hmb] at CB
      clear hmb HD2
      obtain ⟨y0, y1, y2, y3, y4, -, -, -, -, -⟩ := hM2.facts
      go_wp2_with fail
      refine CB.mono ?_
      rintro e w3 ⟨rfl, hb3⟩
      clear y0 y1 y2 y3 y4
      have hR3 := hR2.below hb3
      have hB3 := hB2.trans (hb3.mono hB2.size)
      obtain ⟨z0, z1, z2, z3, z4, f0, f1, f2, f3, f4⟩ := hR3.facts
      go_wp2
      refine bodyPost_ret (v := .tuple #[.agg #[.string ⟨#[]⟩, .bool false, .slice none 0 0, .bool false, .slice none 0 0], .int .i64 50]) (by simp [results, Tryz.results34, go_sem, z0, z1, z2, z3, z4]) rfl ?_
      exact DefRes.no HN.out rfl (below_set5 hB3 (Nat.le_refl _))
    | true =>
      have HN : Hid (X = some ⟨m.nm, m.fn, m.ps, m.vr, firstNo (l.map pzOf)⟩) := Lib.hid (by rw [HD2.out, hmb]; rfl)
      rw [hmb] at CB
      clear hmb HD2
      obtain ⟨y0, y1, y2, y3, y4, -, -, -, -, -⟩ := hM2.facts
      go_wp2_with fail
      refine CB.mono ?_
      rintro e w3 ⟨rfl, hb3⟩
      clear y0 y1 y2 y3 y4 CB
      have hR3 := hR2.below hb3
      have hM3 := hM2.below hb3
      have hB3 := hB2.trans (hb3.mono hB2.size)
      have hrow3 := row_below hrow2 hb3
      have hs3 : w1.heap.size < w3.heap.size := (Array.getElem?_eq_some_iff.1 hM3).1
      have CO := of_any l k c1 a1 w3 HK.out (by omega) HLX.out (HT2.out _ hb3)
      clear hR2 hM2 hB2 hrow2 hb3 HT2
      go_wp2_with fail
      refine CO.mono ?_
      rintro e w4 ⟨⟨bv, rfl, hrw4⟩, hb4⟩
      obtain ⟨ab, cb, rfl⟩ := row_shape hrw4
      have hR4 := hR3.below hb4
      have hM4 := hM3.below hb4
      have hB4 := hB3.trans (hb4.mono hB3.size)
      have hrow4 := row_below hrow3 hb4
      have hl3 := hrow3.lt
      have hl4 := hrw4.lt
      have hp1 : ∀ j, (Value.slice pa pn pc).ownBlock = some j → w.heap.size < j ∧ j < w1.heap.size := fun j h => ⟨(hl1 j h).1, (hl1 j h).2⟩
      clear CO hR3 hM3 hB3 hrow3 hb4
      obtain ⟨M, hMM⟩ : ∃ M, w1.heap.size = M := ⟨_, rfl⟩
      rw [hMM] at hM4 hs12 hs3 hp1
      rw [hMM]
      clear hMM
      have hM5 := hM4.set4 (.slice ab k cb)
      have hR5 := hR4.far (show M ≠ w.heap.size by omega) (i := 4) (u := .slice ab k cb)
      have hB5 := hB4.setCell (p := ⟨M, 4, none⟩) (show w.heap.size ≤ M by omega) (.slice ab k cb)
      have hrow5 := row_setC (P := M) (i := 4) (a := .slice ab k cb) hrow4 (fun j h => by have := (hp1 j h).2; omega)
      have hrw5 := row_setC (P := M) (i := 4) (a := .slice ab k cb) hrw4 (fun j h => by have := (hl4 j h).1; omega)
      obtain ⟨-, -, -, -, y4, -, -, -, -, g4⟩ := hM4.facts
      obtain ⟨x0, x1, x2, x3, x4, -, -, -, -, -⟩ := hM5.facts
      by_cases h0 : 0 < k
      · obtain ⟨p, r, hl⟩ : ∃ p r, l = p :: r := by
          cases l with
          | nil => have := HK.out; simp at this; omega
          | cons p r => exact ⟨p, r, rfl⟩
        have hrw6 := hrw5
        rw [hl, List.map_cons] at hrw6
        obtain ⟨g, rfl, hg, hcc⟩ := row_pos h0 hrw6
        have k2 := hcc 2 (.bool (pzOf p).sp) rfl
        have k3 := hrw6.frozenAt 2
        replace hrw6 := pn_first hrw6
        have hg3 := (hl4 g rfl).1
        have hM6 := hM5.far (show g ≠ M by omega) (i := 2) (u := .bool false)
        have hR6 := hR5.far (show g ≠ w.heap.size by omega) (i := 2) (u := .bool false)
        have hB6 := hB5.setCell (p := ⟨g, 2, none⟩) (show w.heap.size ≤ g by omega) (.bool false)
        have hrow6 := row_setC (P := g) (i := 2) (a := .bool false) hrow5 (fun j h => by have := (hp1 j h).2; omega)
        have q1 : (0 : Int) < (k : Int) := by omega
        have hgw : w.heap.size < g := by omega
        have hls : l.length = k := HK.out
        clear hl3 hl4 hrw5 hrw4 hcc
        obtain ⟨m0, m1, m2, m3, m4, -, -, -, -, -⟩ := hM6.facts
        obtain ⟨z0, z1, z2, z3, z4, f0, f1, f2, f3, f4⟩ := hR6.facts
        go_wp2
        clear z0 z1 z2 z3 z4 f0 f1 f2 f3 f4
        have hR7 := ((((hR6.set0 (.string m.nm)).set1 (.bool m.fn)).set2 (.slice pa pn pc)).set3 (.bool m.vr)).set4 (.slice (some ⟨g, 0, none⟩) k cb)
        obtain ⟨z0, z1, z2, z3, z4, -, -, -, -, -⟩ := hR7.facts
        refine bodyPost_ret (v := .tuple #[.agg #[.string m.nm, .bool m.fn, .slice pa pn pc, .bool m.vr, .slice (some ⟨g, 0, none⟩) k cb], .int .i64 0]) (by simp [results, Tryz.results34, go_sem, z0, z1, z2, z3, z4]) rfl ?_
        refine DefRes.yes HN.out HPN.out (by rw [firstNo_len, List.length_map, hls]) rfl ?_ ?_ (below_set5 hB6 (Nat.le_refl _))
        · exact ownsRow_set5 (row_lower0 (by simp) hrow6) (fun j h => by have := (hp1 j h).1; omega)
        · rw [hl, List.map_cons]
          exact ownsRow_set5 (row_lower0 (by omega) hrw6) (fun j h => by cases h; show g ≠ w.heap.size; omega)
      · obtain rfl : k = 0 := by omega
        have hl5 := hrw5.lt
        clear hl3 hl4
        obtain ⟨z0, z1, z2, z3, z4, f0, f1, f2, f3, f4⟩ := hR5.facts
        go_wp2
        clear z0 z1 z2 z3 z4 f0 f1 f2 f3 f4
        have hR6 := ((((hR5.set0 (.string m.nm)).set1 (.bool m.fn)).set2 (.slice pa pn pc)).set3 (.bool m.vr)).set4 (.slice ab 0 cb)
        obtain ⟨z0, z1, z2, z3, z4, -, -, -, -, -⟩ := hR6.facts
        refine bodyPost_ret (v := .tuple #[.agg #[.string m.nm, .bool m.fn, .slice pa pn pc, .bool m.vr, .slice ab 0 cb], .int .i64 0]) (by simp [results, Tryz.results34, go_sem, z0, z1, z2, z3, z4]) rfl ?_
        refine DefRes.yes HN.out HPN.out (by rw [firstNo_len, List.length_map, HK.out]) rfl ?_ ?_ (below_set5 hB5 (Nat.le_refl _))
        · exact ownsRow_set5 (row_lower0 (by simp) hrow5) (fun j h => by have := (hp1 j h).1; omega)
        · have hl : l = [] := List.length_eq_zero_iff.1 HK.out
          rw [hl] at hrw5 ⊢
          exact ownsRow_set5 (row_lower0 (by omega) hrw5) (fun j h => by have := (hl5 j h).1; omega)

end Go.Proofs.YtaodjipnffgihaaGreat
