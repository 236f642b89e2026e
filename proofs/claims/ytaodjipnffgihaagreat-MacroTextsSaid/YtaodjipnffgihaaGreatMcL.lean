/- macro.Same. -/
import Derived.Test.YtaodjipnffgihaaGreatMcT
import Derived.Test.YtaodjipnffgihaaGreatMzG
import Derived.BigQuiet
namespace Go.Proofs.YtaodjipnffgihaaGreat
open Go.RowKit Go.Shelf

theorem sameTx_ne : ∀ {l r : List ByteArray}, l.length ≠ r.length → sameTx l r = false
  | [], [], h => absurd rfl h
  | [], _ :: _, _ => rfl
  | _ :: _, [], _ => rfl
  | a :: l, b :: r, h => by
    rw [sameTx, sameTx_ne (l := l) (r := r) (fun e => h (by rw [List.length_cons, List.length_cons, e])), Bool.and_false]
theorem sameTx_drop {l r : List ByteArray} {k : Nat} {s t : ByteArray} (hs : l[k]? = some s) (ht : r[k]? = some t) : sameTx (l.drop k) (r.drop k) = (s.toList == t.toList && sameTx (l.drop (k + 1)) (r.drop (k + 1))) := by
  rw [List.drop_eq_getElem_cons (List.getElem?_eq_some_iff.1 hs).1, (List.getElem?_eq_some_iff.1 hs).2, List.drop_eq_getElem_cons (List.getElem?_eq_some_iff.1 ht).1, (List.getElem?_eq_some_iff.1 ht).2, sameTx]
theorem samePs_ne : ∀ {l r : List Pz}, l.length ≠ r.length → samePs l r = false
  | [], [], h => absurd rfl h
  | [], _ :: _, _ => rfl
  | _ :: _, [], _ => rfl
  | a :: l, b :: r, h => by
    rw [samePs, samePs_ne (l := l) (r := r) (fun e => h (by rw [List.length_cons, List.length_cons, e])), Bool.and_false]
theorem samePs_drop {l r : List Pz} {k : Nat} {s t : Pz} (hs : l[k]? = some s) (ht : r[k]? = some t) : samePs (l.drop k) (r.drop k) = (sameP s t && samePs (l.drop (k + 1)) (r.drop (k + 1))) := by
  rw [List.drop_eq_getElem_cons (List.getElem?_eq_some_iff.1 hs).1, (List.getElem?_eq_some_iff.1 hs).2, List.drop_eq_getElem_cons (List.getElem?_eq_some_iff.1 ht).1, (List.getElem?_eq_some_iff.1 ht).2, samePs]

/-- Macro tokens behind a place; each one's parts are texts, and not too many. -/
def PzAt (W : World) (b o : Nat) (ps : List Pz) : Prop := ∀ i p, ps[i]? = some p → W.cell? ⟨b, o + i * 4, none⟩ = some (.int .i64 p.k) ∧ W.cell? ⟨b, o + i * 4 + 1, none⟩ = some (.string p.tx) ∧ W.cell? ⟨b, o + i * 4 + 2, none⟩ = some (.bool p.sp) ∧ ∃ a c, W.cell? ⟨b, o + i * 4 + 3, none⟩ = some (.slice a p.ps.length c) ∧ StrIn W a p.ps ∧ p.ps.length ≤ 140737488355328
def PzIn (W : World) (a : Option Addr) (ps : List Pz) : Prop := 0 < ps.length → ∃ b o, a = some ⟨b, o, none⟩ ∧ b < W.heap.size ∧ PzAt W b o ps
theorem PzAt.below {b o : Nat} {W W' : World} {ps : List Pz} (h : PzAt W b o ps) (hb : Below W.heap.size W W') (hlt : b < W.heap.size) : PzAt W' b o ps := fun i p hi => by
  have hc : ∀ q, W'.cell? ⟨b, q, none⟩ = W.cell? ⟨b, q, none⟩ := fun q => hb.cell (p := ⟨b, q, none⟩) hlt
  obtain ⟨h0, h1, h2, a, c, h3, h4, h5⟩ := h i p hi
  rw [hc, hc, hc]
  exact ⟨h0, h1, h2, a, c, by rw [hc]; exact h3, h4.below hb, h5⟩
theorem PzIn.below {W W' : World} {a : Option Addr} {ps : List Pz} (h : PzIn W a ps) (hb : Below W.heap.size W W') : PzIn W' a ps := fun hp => by
  obtain ⟨b, o, e, hlt, ht⟩ := h hp
  exact ⟨b, o, e, Nat.lt_of_lt_of_le hlt hb.size, ht.below hb hlt⟩
/-- A row of macro tokens without parts. -/
theorem pzIn_row {w : World} {base n cap : Nat} {a : Option Addr} {ps : List Pz} (hn : ps.length = n) (he : ∀ p ∈ ps, p.ps = []) (h : w.ownsRow base 35 4 (.slice a n cap) n (pnCells ps)) : PzIn w a ps := fun hp => by
  obtain ⟨g, rfl, hg, hc⟩ := row_pos (by omega) h
  refine ⟨g, 0, rfl, hg, fun i p hi => ?_⟩
  rw [Nat.zero_add]
  have hpe := he p (List.mem_of_getElem? hi)
  refine ⟨hc _ _ (pnCells_get hi 0 (by decide)), hc _ _ (pnCells_get hi 1 (by decide)), hc _ _ (pnCells_get hi 2 (by decide)), none, 0, ?_, ?_, ?_⟩
  · rw [hpe]; exact hc _ _ (pnCells_get hi 3 (by decide))
  · rw [hpe]; intro h; cases h
  · rw [hpe]; exact Nat.zero_le _

set_option maxRecDepth 100000 in
set_option maxHeartbeats 4000000 in
theorem sEqual_any (l r : List ByteArray) (n m c1 c2 : Nat) (a1 a2 : Option Addr) (w : World) (hn : l.length = n) (hm : r.length = m) (hn2 : n ≤ 140737488355328) (hm2 : m ≤ 140737488355328) (h1 : StrIn w a1 l) (h2 : StrIn w a2 r) :
    Calls Tryz.prog 21 #[.slice a1 n c1, .slice a2 m c2] w fun e w' => e = .returned (.bool (sameTx l r)) ∧ Below w.heap.size w w' := by
  by_cases hnm : n = m
  · subst hnm
    have HN := Lib.hid hn
    have HM := Lib.hid hm
    have H1 := Lib.hid h1
    have H2 := Lib.hid h2
    obtain ⟨R, hR⟩ : ∃ R, sameTx l r = R := ⟨_, rfl⟩
    have HR : Hid (R = sameTx (l.drop 0) (r.drop 0)) := Lib.hid hR.symm
    rw [hR]
    clear hn hm h1 h2 hR
    go_enter Tryz.func21, Tryz.ntmps21
    go_wp2
    go_loopw [13] (fun i wx => ∃ k : Nat, k ≤ n ∧ i = .int .i64 k ∧ Hid (R = sameTx (l.drop k) (r.drop k)) ∧ Below w.heap.size w wx) (fun i _ => n - (intOf i).toNat)
    case atStart => exact ⟨0, Nat.zero_le _, rfl, HR, Below.refl _ _⟩
    case round =>
      obtain ⟨k, hk, rfl, HK, hbx⟩ := hrel
      by_cases hlt : k < n
      · obtain ⟨s, hs⟩ : ∃ s, l[k]? = some s := ⟨_, List.getElem?_eq_getElem (by rw [HN.out]; exact hlt)⟩
        obtain ⟨t, ht⟩ : ∃ t, r[k]? = some t := ⟨_, List.getElem?_eq_getElem (by rw [HM.out]; exact hlt)⟩
        obtain ⟨b1, o1, rfl, hg1, hr1⟩ := H1.out (by rw [HN.out]; omega)
        obtain ⟨b2, o2, rfl, hg2, hr2⟩ := H2.out (by rw [HM.out]; omega)
        have c1' := (hr1.below hbx hg1) k s hs
        have c2' := (hr2.below hbx hg2) k t ht
        have hst := HK.out
        rw [sameTx_drop hs ht] at hst
        have HS := Lib.hid hst
        clear hs ht hr1 hr2 hst HK
        have j1 : (k : Int) < (n : Int) := by omega
        have j0 : (0 : Int) ≤ (k : Int) := by omega
        cases he : (s.toList == t.toList) with
        | true =>
          have hne : (!(s.toList == t.toList)) = false := by rw [he]; rfl
          have HK2 : Hid (R = sameTx (l.drop (k + 1)) (r.drop (k + 1))) := Lib.hid (by rw [HS.out, he]; rfl)
          clear HS
          go_wp2
          go_big_quiet (fail)
          go_wp2

          refine ⟨⟨k + 1, by omega, by go_num, HK2, below_drewN hbx _⟩, ?_⟩
          simp [intOf]; omega
        | false =>
          have hne : (!(s.toList == t.toList)) = true := by rw [he]; rfl
          have HK2 : Hid (R = false) := Lib.hid (by rw [HS.out, he]; rfl)
          clear HS
          go_wp2
          go_big_quiet (fail)
          go_wp2
          go_ret
          exact ⟨rb (by rw [HK2.out]), below_drewN hbx _⟩
      · have HK2 : Hid (R = true) := Lib.hid (by
          rw [HK.out, List.drop_eq_nil_of_le (by rw [HN.out]; omega), List.drop_eq_nil_of_le (by rw [HM.out]; omega)]; rfl)
        clear HK
        go_wp2
        go_ret
        exact ⟨rb (by rw [HK2.out]), hbx⟩
  · have he := sameTx_ne (l := l) (r := r) (by rw [hn, hm]; exact hnm)
    have hj : ((n : Int) != (m : Int)) = true := by simp; omega
    rw [he]
    clear hn hm h1 h2 he
    go_enter Tryz.func21, Tryz.ntmps21
    go_wp2
    go_ret
    exact ⟨rfl, Below.refl _ _⟩

set_option maxRecDepth 100000 in
set_option maxHeartbeats 4000000 in
theorem same1_any (p q : Pz) (a1 a2 : Option Addr) (c1 c2 : Nat) (w : World) (hl1 : p.ps.length ≤ 140737488355328) (hl2 : q.ps.length ≤ 140737488355328) (h1 : StrIn w a1 p.ps) (h2 : StrIn w a2 q.ps) :
    Calls Tryz.prog 20 #[.agg #[.int .i64 p.k, .string p.tx, .bool p.sp, .slice a1 p.ps.length c1], .agg #[.int .i64 q.k, .string q.tx, .bool q.sp, .slice a2 q.ps.length c2]] w fun e w' => e = .returned (.bool (sameP p q)) ∧ Below w.heap.size w w' := by
  have hb := below2 w (.cells #[.int .i64 p.k, .string p.tx, .bool p.sp, .slice a1 p.ps.length c1] 35) (.cells #[.int .i64 q.k, .string q.tx, .bool q.sp, .slice a2 q.ps.length c2] 35)
  have CE := sEqual_any p.ps q.ps p.ps.length q.ps.length c1 c2 a1 a2 _ rfl rfl hl1 hl2 (h1.below hb) (h2.below hb)
  have HS : Hid (sameP p q = (p.k == q.k && p.tx.toList == q.tx.toList && p.sp == q.sp && sameTx p.ps q.ps)) := Lib.hid rfl
  clear h1 h2
  cases e1 : (p.k == q.k) with
  | false =>
    have HN : Hid (sameP p q = false) := Lib.hid (by rw [HS.out, e1]; rfl)
    clear HS
    go_enter Tryz.func20, Tryz.ntmps20
    go_wp2
    go_ret
    exact ⟨rb (by rw [HN.out]), hb⟩
  | true =>
    cases e2 : (p.tx.toList == q.tx.toList) with
    | false =>
      have HN : Hid (sameP p q = false) := Lib.hid (by rw [HS.out, e1, e2]; rfl)
      clear HS
      go_enter Tryz.func20, Tryz.ntmps20
      go_wp2
      go_ret
      exact ⟨rb (by rw [HN.out]), hb⟩
    | true =>
      cases e3 : (p.sp == q.sp) with
      | false =>
        have HN : Hid (sameP p q = false) := Lib.hid (by rw [HS.out, e1, e2, e3]; rfl)
        clear HS
        go_enter Tryz.func20, Tryz.ntmps20
        go_wp2
        go_ret
        exact ⟨rb (by rw [HN.out]), hb⟩
      | true =>
        have HN : Hid (sameP p q = sameTx p.ps q.ps) := Lib.hid (by rw [HS.out, e1, e2, e3]; rfl)
        clear HS
        go_enter Tryz.func20, Tryz.ntmps20
        go_wp2_with fail
        refine CE.mono ?_
        rintro e w1 ⟨rfl, hb1⟩
        go_wp2
        go_ret
        exact ⟨rb (by rw [HN.out]), hb.trans (hb1.mono hb.size)⟩

set_option maxRecDepth 100000 in
set_option maxHeartbeats 8000000 in
theorem equalFunc_any (l r : List Pz) (n m c1 c2 : Nat) (a1 a2 : Option Addr) (w : World) (hn : l.length = n) (hm : r.length = m) (hn2 : n ≤ 140737488355328) (hm2 : m ≤ 140737488355328) (h1 : PzIn w a1 l) (h2 : PzIn w a2 r) :
    Calls Tryz.prog 22 #[.slice a1 n c1, .slice a2 m c2, .func (.func 20) #[] #[]] w fun e w' => e = .returned (.bool (samePs l r)) ∧ Below w.heap.size w w' := by
  by_cases hnm : n = m
  · subst hnm
    have HN := Lib.hid hn
    have HM := Lib.hid hm
    have H1 := Lib.hid h1
    have H2 := Lib.hid h2
    obtain ⟨R, hR⟩ : ∃ R, samePs l r = R := ⟨_, rfl⟩
    have HR : Hid (R = samePs (l.drop 0) (r.drop 0)) := Lib.hid hR.symm
    rw [hR]
    clear hn hm h1 h2 hR
    go_enter Tryz.func22, Tryz.ntmps22
    go_wp2
    go_loopw [17] (fun i wx => ∃ k : Nat, k ≤ n ∧ i = .int .i64 k ∧ Hid (R = samePs (l.drop k) (r.drop k)) ∧ Below w.heap.size w wx) (fun i _ => n - (intOf i).toNat)
    case atStart => exact ⟨0, Nat.zero_le _, rfl, HR, Below.refl _ _⟩
    case round =>
      obtain ⟨k, hk, rfl, HK, hbx⟩ := hrel
      by_cases hlt : k < n
      · obtain ⟨p, hp⟩ : ∃ s, l[k]? = some s := ⟨_, List.getElem?_eq_getElem (by rw [HN.out]; exact hlt)⟩
        obtain ⟨q, hq⟩ : ∃ t, r[k]? = some t := ⟨_, List.getElem?_eq_getElem (by rw [HM.out]; exact hlt)⟩
        obtain ⟨b1, o1, rfl, hg1, hr1⟩ := (H1.out.below hbx) (by rw [HN.out]; omega)
        obtain ⟨b2, o2, rfl, hg2, hr2⟩ := (H2.out.below hbx) (by rw [HM.out]; omega)
        obtain ⟨x0, x1, x2, pa, pc, x3, x4, x5⟩ := hr1 k p hp
        obtain ⟨y0, y1, y2, qa, qc, y3, y4, y5⟩ := hr2 k q hq
        have hbw := below2 wr (.cells #[.int .i64 p.k, .string p.tx, .bool p.sp, .slice pa p.ps.length pc] 35) (.cells #[.int .i64 q.k, .string q.tx, .bool q.sp, .slice qa q.ps.length qc] 35)
        have C := same1_any p q pa qa pc qc _ x5 y5 (x4.below hbw) (y4.below hbw)
        have z0 : (wr.alloc (.cells #[.int .i64 p.k, .string p.tx, .bool p.sp, .slice pa p.ps.length pc] 35)).cell? ⟨b2, o2 + k * 4, none⟩ = some (.int .i64 q.k) := ((below1 wr _).cell (p := ⟨b2, o2 + k * 4, none⟩) hg2).trans y0
        have z1 : (wr.alloc (.cells #[.int .i64 p.k, .string p.tx, .bool p.sp, .slice pa p.ps.length pc] 35)).cell? ⟨b2, o2 + k * 4 + 1, none⟩ = some (.string q.tx) := ((below1 wr _).cell (p := ⟨b2, o2 + k * 4 + 1, none⟩) hg2).trans y1
        have z2 : (wr.alloc (.cells #[.int .i64 p.k, .string p.tx, .bool p.sp, .slice pa p.ps.length pc] 35)).cell? ⟨b2, o2 + k * 4 + 2, none⟩ = some (.bool q.sp) := ((below1 wr _).cell (p := ⟨b2, o2 + k * 4 + 2, none⟩) hg2).trans y2
        have z3 : (wr.alloc (.cells #[.int .i64 p.k, .string p.tx, .bool p.sp, .slice pa p.ps.length pc] 35)).cell? ⟨b2, o2 + k * 4 + 3, none⟩ = some (.slice qa q.ps.length qc) := ((below1 wr _).cell (p := ⟨b2, o2 + k * 4 + 3, none⟩) hg2).trans y3
        have hst := HK.out
        rw [samePs_drop hp hq] at hst
        have HS := Lib.hid hst
        clear hp hq hr1 hr2 hst HK x4 y4
        have j1 : (k : Int) < (n : Int) := by omega
        have j0 : (0 : Int) ≤ (k : Int) := by omega
        cases he : sameP p q with
        | true =>
          rw [he] at C
          have HK2 : Hid (R = samePs (l.drop (k + 1)) (r.drop (k + 1))) := Lib.hid (by rw [HS.out, he]; rfl)
          clear HS
          go_wp2_with fail
          refine C.mono ?_
          rintro e w1 ⟨rfl, hb1⟩
          have hB1 := hbx.trans ((hbw.trans (hb1.mono hbw.size)).mono hbx.size)
          go_wp2
          refine ⟨⟨k + 1, by omega, by go_num, HK2, hB1⟩, ?_⟩
          simp [intOf]; omega
        | false =>
          rw [he] at C
          have HK2 : Hid (R = false) := Lib.hid (by rw [HS.out, he]; rfl)
          clear HS
          go_wp2_with fail
          refine C.mono ?_
          rintro e w1 ⟨rfl, hb1⟩
          have hB1 := hbx.trans ((hbw.trans (hb1.mono hbw.size)).mono hbx.size)
          go_wp2
          go_ret
          exact ⟨rb (by rw [HK2.out]), hB1⟩
      · have HK2 : Hid (R = true) := Lib.hid (by
          rw [HK.out, List.drop_eq_nil_of_le (by rw [HN.out]; omega), List.drop_eq_nil_of_le (by rw [HM.out]; omega)]; rfl)
        clear HK
        go_wp2
        go_ret
        exact ⟨rb (by rw [HK2.out]), hbx⟩
  · have he := samePs_ne (l := l) (r := r) (by rw [hn, hm]; exact hnm)
    have hj : ((n : Int) != (m : Int)) = true := by simp; omega
    rw [he]
    clear hn hm h1 h2 he
    go_enter Tryz.func22, Tryz.ntmps22
    go_wp2
    go_ret
    exact ⟨rfl, Below.refl _ _⟩

set_option maxRecDepth 100000 in
set_option maxHeartbeats 8000000 in
theorem same_mz (m o : Mz) (pa1 pa2 ba1 ba2 : Option Addr) (pc1 pc2 bc1 bc2 : Nat) (w : World) (hl1 : m.ps.length ≤ 140737488355328) (hl2 : o.ps.length ≤ 140737488355328) (hl3 : m.bs.length ≤ 140737488355328) (hl4 : o.bs.length ≤ 140737488355328) (h1 : StrIn w pa1 m.ps) (h2 : StrIn w pa2 o.ps) (h3 : PzIn w ba1 m.bs) (h4 : PzIn w ba2 o.bs) :
    Calls Tryz.prog 8 #[.agg #[.string m.nm, .bool m.fn, .slice pa1 m.ps.length pc1, .bool m.vr, .slice ba1 m.bs.length bc1], .agg #[.string o.nm, .bool o.fn, .slice pa2 o.ps.length pc2, .bool o.vr, .slice ba2 o.bs.length bc2]] w fun e w' => e = .returned (.bool (sameM m o)) ∧ Below w.heap.size w w' := by
  have hb := below2 w (.cells #[.string m.nm, .bool m.fn, .slice pa1 m.ps.length pc1, .bool m.vr, .slice ba1 m.bs.length bc1] 25) (.cells #[.string o.nm, .bool o.fn, .slice pa2 o.ps.length pc2, .bool o.vr, .slice ba2 o.bs.length bc2] 25)
  have CE := sEqual_any m.ps o.ps m.ps.length o.ps.length pc1 pc2 pa1 pa2 _ rfl rfl hl1 hl2 (h1.below hb) (h2.below hb)
  have CF := fun (W : World) (h : Below w.heap.size w W) => equalFunc_any m.bs o.bs m.bs.length o.bs.length bc1 bc2 ba1 ba2 W rfl rfl hl3 hl4 (h3.below h) (h4.below h)
  have HS : Hid (sameM m o = (m.nm.toList == o.nm.toList && m.fn == o.fn && sameTx m.ps o.ps && m.vr == o.vr && samePs m.bs o.bs)) := Lib.hid rfl
  have hk := mcells (w := w) (vs := #[.string m.nm, .bool m.fn, .slice pa1 m.ps.length pc1, .bool m.vr, .slice ba1 m.bs.length bc1]) (t := 25)
  have hk2 := mcells (w := w.alloc (.cells #[.string m.nm, .bool m.fn, .slice pa1 m.ps.length pc1, .bool m.vr, .slice ba1 m.bs.length bc1] 25)) (vs := #[.string o.nm, .bool o.fn, .slice pa2 o.ps.length pc2, .bool o.vr, .slice ba2 o.bs.length bc2]) (t := 25)
  rw [World.size_alloc] at hk2
  have HC : Hid (∀ W, Below ((w.alloc (.cells #[.string m.nm, .bool m.fn, .slice pa1 m.ps.length pc1, .bool m.vr, .slice ba1 m.bs.length bc1] 25)).alloc (.cells #[.string o.nm, .bool o.fn, .slice pa2 o.ps.length pc2, .bool o.vr, .slice ba2 o.bs.length bc2] 25)).heap.size ((w.alloc (.cells #[.string m.nm, .bool m.fn, .slice pa1 m.ps.length pc1, .bool m.vr, .slice ba1 m.bs.length bc1] 25)).alloc (.cells #[.string o.nm, .bool o.fn, .slice pa2 o.ps.length pc2, .bool o.vr, .slice ba2 o.bs.length bc2] 25)) W →
      W.cell? ⟨w.heap.size, 3, none⟩ = some (.bool m.vr) ∧ W.cell? ⟨w.heap.size + 1, 3, none⟩ = some (.bool o.vr) ∧ W.cell? ⟨w.heap.size, 4, none⟩ = some (.slice ba1 m.bs.length bc1) ∧ W.cell? ⟨w.heap.size + 1, 4, none⟩ = some (.slice ba2 o.bs.length bc2)) := Lib.hid (fun W h => by
    have q1 := hk 3 _ rfl
    have q2 := hk2 3 _ rfl
    have q3 := hk 4 _ rfl
    have q4 := hk2 4 _ rfl
    have hbb := below1 (w.alloc (.cells #[.string m.nm, .bool m.fn, .slice pa1 m.ps.length pc1, .bool m.vr, .slice ba1 m.bs.length bc1] 25)) (.cells #[.string o.nm, .bool o.fn, .slice pa2 o.ps.length pc2, .bool o.vr, .slice ba2 o.bs.length bc2] 25)
    refine ⟨?_, ?_, ?_, ?_⟩
    · exact (h.cell (p := ⟨w.heap.size, 3, none⟩) (by simp; omega)).trans ((hbb.cell (p := ⟨w.heap.size, 3, none⟩) (by simp)).trans q1)
    · exact (h.cell (p := ⟨w.heap.size + 1, 3, none⟩) (by simp)).trans q2
    · exact (h.cell (p := ⟨w.heap.size, 4, none⟩) (by simp; omega)).trans ((hbb.cell (p := ⟨w.heap.size, 4, none⟩) (by simp)).trans q3)
    · exact (h.cell (p := ⟨w.heap.size + 1, 4, none⟩) (by simp)).trans q4)
  clear h1 h2 h3 h4 hk hk2
  cases e1 : (m.nm.toList == o.nm.toList) with
  | false =>
    have HN : Hid (sameM m o = false) := Lib.hid (by rw [HS.out, e1]; rfl)
    clear HS
    go_enter Tryz.func8, Tryz.ntmps8
    go_wp2
    go_ret
    exact ⟨rb (by rw [HN.out]), hb⟩

  | true =>
    cases e2 : (m.fn == o.fn) with
    | false =>
      have HN : Hid (sameM m o = false) := Lib.hid (by rw [HS.out, e1, e2]; rfl)
      clear HS
      go_enter Tryz.func8, Tryz.ntmps8
      go_wp2
      go_ret
      exact ⟨rb (by rw [HN.out]), hb⟩

    | true =>
      cases e3 : sameTx m.ps o.ps with
      | false =>
        rw [e3] at CE
        have HN : Hid (sameM m o = false) := Lib.hid (by rw [HS.out, e1, e2, e3]; rfl)
        clear HS
        go_enter Tryz.func8, Tryz.ntmps8
        go_wp2_with fail
        refine CE.mono ?_
        rintro e v1 ⟨rfl, hbv1⟩
        go_wp2
        go_ret
        exact ⟨rb (by rw [HN.out]), hb.trans (hbv1.mono hb.size)⟩
      | true =>
        rw [e3] at CE
        cases e4 : (m.vr == o.vr) with
        | false =>
          have HN : Hid (sameM m o = false) := Lib.hid (by rw [HS.out, e1, e2, e3, e4]; rfl)
          clear HS
          go_enter Tryz.func8, Tryz.ntmps8
          go_wp2_with fail
          refine CE.mono ?_
          rintro e v1 ⟨rfl, hbv1⟩
          obtain ⟨x1, x2, x3, x4⟩ := HC.out v1 hbv1
          go_wp2
          go_ret
          exact ⟨rb (by rw [HN.out]), hb.trans (hbv1.mono hb.size)⟩
        | true =>
          have HN : Hid (sameM m o = samePs m.bs o.bs) := Lib.hid (by rw [HS.out, e1, e2, e3, e4]; rfl)
          clear HS
          go_enter Tryz.func8, Tryz.ntmps8
          go_wp2_with fail
          refine CE.mono ?_
          rintro e v1 ⟨rfl, hbv1⟩
          obtain ⟨x1, x2, x3, x4⟩ := HC.out v1 hbv1
          have hB1 := hb.trans (hbv1.mono hb.size)
          go_wp2_with fail
          refine (CF v1 hB1).mono ?_
          rintro e v2 ⟨rfl, hbv2⟩
          go_wp2
          go_ret
          exact ⟨rb (by rw [HN.out]), hB1.trans (hbv2.mono hB1.size)⟩


end Go.Proofs.YtaodjipnffgihaaGreat
