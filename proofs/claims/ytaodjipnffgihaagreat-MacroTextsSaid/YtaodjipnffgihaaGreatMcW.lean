/- The document's answer, layer 5: are macros the same. -/
import Derived.Test.YtaodjipnffgihaaGreatMcN
import Derived.Deep.QuietTactic
namespace Go.Proofs.YtaodjipnffgihaaGreat
open Go.RowKit Go.Shelf

set_option maxRecDepth 100000 in
set_option maxHeartbeats 4000000 in
theorem rSameTx_q (l r : List ByteArray) (n m c1 c2 : Nat) (a1 a2 : Option Addr) (w : World) (hn : l.length = n) (hm : r.length = m) (hn2 : n ≤ 140737488355328) (hm2 : m ≤ 140737488355328) (h1 : StrIn w a1 l) (h2 : StrIn w a2 r) :
    Calls Tryz.prog 23 #[.slice a1 n c1, .slice a2 m c2] w fun e w' => e = .returned (.bool (sameTx l r)) ∧ ∃ q, w' = w.drewN q := by
  by_cases hnm : n = m
  · subst hnm
    have HN := Lib.hid hn
    have HM := Lib.hid hm
    have H1 := Lib.hid h1
    have H2 := Lib.hid h2
    obtain ⟨R, hR⟩ : ∃ R, sameTx l r = R := ⟨_, rfl⟩
    have HR : Hid (R = sameTx (l.drop 0) (r.drop 0)) := Lib.hid hR.symm
    rw [hR]
    clear hn hm h1 h2 hR
    go_enter Tryz.func23, Tryz.ntmps23
    go_wp2
    go_loopw [5] (fun i wx => ∃ k : Nat, k ≤ n ∧ i = .int .i64 k ∧ Hid (R = sameTx (l.drop k) (r.drop k)) ∧ ∃ q, wx = w.drewN q) (fun i _ => n - (intOf i).toNat)
    case atStart => exact ⟨0, Nat.zero_le _, rfl, HR, 0, rfl⟩
    case round =>
      obtain ⟨k, hk, rfl, HK, qq, rfl⟩ := hrel
      by_cases hlt : k < n
      · obtain ⟨s, hs⟩ : ∃ s, l[k]? = some s := ⟨_, List.getElem?_eq_getElem (by rw [HN.out]; exact hlt)⟩
        obtain ⟨t, ht⟩ : ∃ t, r[k]? = some t := ⟨_, List.getElem?_eq_getElem (by rw [HM.out]; exact hlt)⟩
        obtain ⟨b1, o1, rfl, hg1, hr1⟩ := H1.out (by rw [HN.out]; omega)
        obtain ⟨b2, o2, rfl, hg2, hr2⟩ := H2.out (by rw [HM.out]; omega)
        have c1' := hr1 k s hs
        have c2' := hr2 k t ht
        have hst := HK.out
        rw [sameTx_drop hs ht] at hst
        have HS := Lib.hid hst
        clear hs ht hr1 hr2 hst HK
        have j1 : (k : Int) < (n : Int) := by omega
        have j0 : (0 : Int) ≤ (k : Int) := by omega
        cases he : (s.toList == t.toList) with
        | true =>
          have hne : (!(s.toList == t.toList)) = false := by rw [he]; rfl
          have HK2 : Hid (R = sameTx (l.drop (k + 1)) (r.drop (k + 1))) := Lib.hid (by rw [HS.out, he]; rfl)
          clear HS
          go_wp2
          go_big_quiet (fail)
          go_wp2

          refine ⟨⟨k + 1, by omega, by go_num, HK2, _, rfl⟩, ?_⟩
          simp [intOf]; omega
        | false =>
          have hne : (!(s.toList == t.toList)) = true := by rw [he]; rfl
          have HK2 : Hid (R = false) := Lib.hid (by rw [HS.out, he]; rfl)
          clear HS
          go_wp2
          go_big_quiet (fail)
          go_wp2
          go_ret
          exact ⟨rb (by rw [HK2.out]), _, World.drewN_drewN _ _ _⟩
      · have HK2 : Hid (R = true) := Lib.hid (by
          rw [HK.out, List.drop_eq_nil_of_le (by rw [HN.out]; omega), List.drop_eq_nil_of_le (by rw [HM.out]; omega)]; rfl)
        clear HK
        go_wp2
        go_ret
        exact ⟨rb (by rw [HK2.out]), _, rfl⟩
  · have he := sameTx_ne (l := l) (r := r) (by rw [hn, hm]; exact hnm)
    have hj : ((n : Int) != (m : Int)) = true := by simp; omega
    rw [he]
    clear hn hm h1 h2 he
    go_enter Tryz.func23, Tryz.ntmps23
    go_wp2
    go_ret
    exact ⟨rfl, 0, rfl⟩

theorem quiet_two {P : Program} {f : FuncId} {args : Array Value} {w : World} {x : Nat} {v : Value} (h : Calls P f args (w.drewN x) fun e w' => e = .returned v ∧ ∃ q, w' = (w.drewN x).drewN q) :
    Calls P f args (w.drewN x) fun e w'' => e = .returned v ∧ ∃ n, w'' = w.drewN n := h.mono fun _ _ ⟨he, q, hm⟩ => ⟨he, x + q, by rw [hm, World.drewN_drewN]⟩

set_option maxRecDepth 100000 in
set_option maxHeartbeats 8000000 in
theorem rSameToks_any (l r : List Pz) (n m c1 c2 : Nat) (a1 a2 : Option Addr) (w : World) (hn : l.length = n) (hm : r.length = m) (hn2 : n ≤ 140737488355328) (hm2 : m ≤ 140737488355328) (h1 : PzIn w a1 l) (h2 : PzIn w a2 r) :
    Calls Tryz.prog 24 #[.slice a1 n c1, .slice a2 m c2] w fun e w' => e = .returned (.bool (samePs l r)) ∧ Below w.heap.size w w' := by
  by_cases hnm : n = m
  · subst hnm
    have HN := Lib.hid hn
    have HM := Lib.hid hm
    have H1 := Lib.hid h1
    have H2 := Lib.hid h2
    obtain ⟨R, hR⟩ : ∃ R, samePs l r = R := ⟨_, rfl⟩
    have HR : Hid (R = samePs (l.drop 0) (r.drop 0)) := Lib.hid hR.symm
    rw [hR]
    clear hn hm h1 h2 hR
    go_enter Tryz.func24, Tryz.ntmps24
    go_wp2
    go_loopw [5] (fun i wx => ∃ k : Nat, k ≤ n ∧ i = .int .i64 k ∧ Hid (R = samePs (l.drop k) (r.drop k)) ∧ Below w.heap.size w wx) (fun i _ => n - (intOf i).toNat)
    case atStart => exact ⟨0, Nat.zero_le _, rfl, HR, Below.refl _ _⟩
    case round =>
      obtain ⟨k, hk, rfl, HK, hbx⟩ := hrel
      by_cases hlt : k < n
      · obtain ⟨p, hp⟩ : ∃ s, l[k]? = some s := ⟨_, List.getElem?_eq_getElem (by rw [HN.out]; exact hlt)⟩
        obtain ⟨q, hq⟩ : ∃ t, r[k]? = some t := ⟨_, List.getElem?_eq_getElem (by rw [HM.out]; exact hlt)⟩
        obtain ⟨b1, o1, rfl, hg1, hr1⟩ := (H1.out.below hbx) (by rw [HN.out]; omega)
        obtain ⟨b2, o2, rfl, hg2, hr2⟩ := (H2.out.below hbx) (by rw [HM.out]; omega)
        obtain ⟨x0, x1, x2, pa, pc, x3, x4, x5⟩ := hr1 k p hp
        obtain ⟨y0, y1, y2, qa, qc, y3, y4, y5⟩ := hr2 k q hq
        have CT := fun x => quiet_two (rSameTx_q p.ps q.ps p.ps.length q.ps.length pc qc pa qa (wr.drewN x) rfl rfl x5 y5 (x4.below (below_drewN (Below.refl _ _) x)) (y4.below (below_drewN (Below.refl _ _) x)))
        have hst := HK.out
        rw [samePs_drop hp hq] at hst
        have HS : Hid (R = (p.k == q.k && p.tx.toList == q.tx.toList && p.sp == q.sp && sameTx p.ps q.ps && samePs (l.drop (k + 1)) (r.drop (k + 1)))) := Lib.hid hst
        clear hp hq hr1 hr2 hst HK x4 y4
        have j1 : (k : Int) < (n : Int) := by omega
        have j0 : (0 : Int) ≤ (k : Int) := by omega
        cases e1 : (p.k == q.k) with
        | false =>
          have f1 : (p.k != q.k) = true := by unfold bne; rw [e1]; rfl
          have HK2 : Hid (R = false) := Lib.hid (by rw [HS.out, e1]; rfl)
          clear HS
          go_wp2
          go_big_quiet (fail)
          go_wp2
          go_ret
          exact ⟨rb (by rw [HK2.out]), below_drewN hbx _⟩

        | true =>
          have f1 : (p.k != q.k) = false := by unfold bne; rw [e1]; rfl
          cases e2 : (p.tx.toList == q.tx.toList) with
          | false =>
            have f2 : (p.tx.toList != q.tx.toList) = true := by unfold bne; rw [e2]; rfl
            have g2 : (!(p.tx.toList == q.tx.toList)) = true := by rw [e2]; rfl
            have HK2 : Hid (R = false) := Lib.hid (by rw [HS.out, e1, e2]; rfl)
            clear HS
            go_wp2
            go_big_quiet (fail)
            go_wp2
            go_ret
            exact ⟨rb (by rw [HK2.out]), below_drewN hbx _⟩

          | true =>
            have f2 : (p.tx.toList != q.tx.toList) = false := by unfold bne; rw [e2]; rfl
            have g2 : (!(p.tx.toList == q.tx.toList)) = false := by rw [e2]; rfl
            cases e3 : (p.sp == q.sp) with
            | false =>
              have f3 : (p.sp != q.sp) = true := by unfold bne; rw [e3]; rfl
              have g3 : (!(p.sp == q.sp)) = true := by rw [e3]; rfl
              have HK2 : Hid (R = false) := Lib.hid (by rw [HS.out, e1, e2, e3]; rfl)
              clear HS
              go_wp2
              go_big_quiet (fail)
              go_wp2
              go_ret
              exact ⟨rb (by rw [HK2.out]), below_drewN hbx _⟩

            | true =>
              have f3 : (p.sp != q.sp) = false := by unfold bne; rw [e3]; rfl
              have g3 : (!(p.sp == q.sp)) = false := by rw [e3]; rfl
              cases e4 : sameTx p.ps q.ps with
              | false =>
                simp only [e4] at CT
                have HK2 : Hid (R = false) := Lib.hid (by rw [HS.out, e1, e2, e3, e4]; rfl)
                clear HS
                go_wp2
                go_big_quiet ((go_at_call 23; exact CT _))
                go_wp2
                go_ret
                exact ⟨rb (by rw [HK2.out]), below_drewN hbx _⟩

              | true =>
                simp only [e4] at CT
                have HK2 : Hid (R = samePs (l.drop (k + 1)) (r.drop (k + 1))) := Lib.hid (by rw [HS.out, e1, e2, e3, e4]; rfl)
                clear HS
                go_wp2
                go_big_quiet ((go_at_call 23; exact CT _))
                go_wp2
                refine ⟨⟨k + 1, by omega, by go_num, HK2, below_drewN hbx _⟩, ?_⟩
                simp [intOf]; omega


      · have HK2 : Hid (R = true) := Lib.hid (by
          rw [HK.out, List.drop_eq_nil_of_le (by rw [HN.out]; omega), List.drop_eq_nil_of_le (by rw [HM.out]; omega)]; rfl)
        clear HK
        go_wp2
        go_ret
        exact ⟨rb (by rw [HK2.out]), hbx⟩
  · have he := samePs_ne (l := l) (r := r) (by rw [hn, hm]; exact hnm)
    have hj : ((n : Int) != (m : Int)) = true := by simp; omega
    rw [he]
    clear hn hm h1 h2 he
    go_enter Tryz.func24, Tryz.ntmps24
    go_wp2
    go_ret
    exact ⟨rfl, Below.refl _ _⟩

set_option maxRecDepth 100000 in
set_option maxHeartbeats 8000000 in
theorem rSame_mz (m o : Mz) (pa1 pa2 ba1 ba2 : Option Addr) (pc1 pc2 bc1 bc2 : Nat) (w : World) (hl1 : m.ps.length ≤ 140737488355328) (hl2 : o.ps.length ≤ 140737488355328) (hl3 : m.bs.length ≤ 140737488355328) (hl4 : o.bs.length ≤ 140737488355328) (h1 : StrIn w pa1 m.ps) (h2 : StrIn w pa2 o.ps) (h3 : PzIn w ba1 m.bs) (h4 : PzIn w ba2 o.bs) :
    Calls Tryz.prog 9 #[.agg #[.string m.nm, .bool m.fn, .slice pa1 m.ps.length pc1, .bool m.vr, .slice ba1 m.bs.length bc1], .agg #[.string o.nm, .bool o.fn, .slice pa2 o.ps.length pc2, .bool o.vr, .slice ba2 o.bs.length bc2]] w fun e w' => e = .returned (.bool (sameM m o)) ∧ Below w.heap.size w w' := by
  have hb := below2 w (.cells #[.string m.nm, .bool m.fn, .slice pa1 m.ps.length pc1, .bool m.vr, .slice ba1 m.bs.length bc1] 25) (.cells #[.string o.nm, .bool o.fn, .slice pa2 o.ps.length pc2, .bool o.vr, .slice ba2 o.bs.length bc2] 25)
  have CE := rSameTx_any m.ps o.ps m.ps.length o.ps.length pc1 pc2 pa1 pa2 _ rfl rfl hl1 hl2 (h1.below hb) (h2.below hb)
  have CF := fun (W : World) (h : Below w.heap.size w W) => rSameToks_any m.bs o.bs m.bs.length o.bs.length bc1 bc2 ba1 ba2 W rfl rfl hl3 hl4 (h3.below h) (h4.below h)
  have HS : Hid (sameM m o = (m.nm.toList == o.nm.toList && m.fn == o.fn && sameTx m.ps o.ps && m.vr == o.vr && samePs m.bs o.bs)) := Lib.hid rfl
  have hk := mcells (w := w) (vs := #[.string m.nm, .bool m.fn, .slice pa1 m.ps.length pc1, .bool m.vr, .slice ba1 m.bs.length bc1]) (t := 25)
  have hk2 := mcells (w := w.alloc (.cells #[.string m.nm, .bool m.fn, .slice pa1 m.ps.length pc1, .bool m.vr, .slice ba1 m.bs.length bc1] 25)) (vs := #[.string o.nm, .bool o.fn, .slice pa2 o.ps.length pc2, .bool o.vr, .slice ba2 o.bs.length bc2]) (t := 25)
  rw [World.size_alloc] at hk2
  have HC : Hid (∀ W, Below ((w.alloc (.cells #[.string m.nm, .bool m.fn, .slice pa1 m.ps.length pc1, .bool m.vr, .slice ba1 m.bs.length bc1] 25)).alloc (.cells #[.string o.nm, .bool o.fn, .slice pa2 o.ps.length pc2, .bool o.vr, .slice ba2 o.bs.length bc2] 25)).heap.size ((w.alloc (.cells #[.string m.nm, .bool m.fn, .slice pa1 m.ps.length pc1, .bool m.vr, .slice ba1 m.bs.length bc1] 25)).alloc (.cells #[.string o.nm, .bool o.fn, .slice pa2 o.ps.length pc2, .bool o.vr, .slice ba2 o.bs.length bc2] 25)) W →
      W.cell? ⟨w.heap.size, 3, none⟩ = some (.bool m.vr) ∧ W.cell? ⟨w.heap.size + 1, 3, none⟩ = some (.bool o.vr) ∧ W.cell? ⟨w.heap.size, 4, none⟩ = some (.slice ba1 m.bs.length bc1) ∧ W.cell? ⟨w.heap.size + 1, 4, none⟩ = some (.slice ba2 o.bs.length bc2)) := Lib.hid (fun W h => by
    have q1 := hk 3 _ rfl
    have q2 := hk2 3 _ rfl
    have q3 := hk 4 _ rfl
    have q4 := hk2 4 _ rfl
    have hbb := below1 (w.alloc (.cells #[.string m.nm, .bool m.fn, .slice pa1 m.ps.length pc1, .bool m.vr, .slice ba1 m.bs.length bc1] 25)) (.cells #[.string o.nm, .bool o.fn, .slice pa2 o.ps.length pc2, .bool o.vr, .slice ba2 o.bs.length bc2] 25)
    refine ⟨?_, ?_, ?_, ?_⟩
    · exact (h.cell (p := ⟨w.heap.size, 3, none⟩) (by simp; omega)).trans ((hbb.cell (p := ⟨w.heap.size, 3, none⟩) (by simp)).trans q1)
    · exact (h.cell (p := ⟨w.heap.size + 1, 3, none⟩) (by simp)).trans q2
    · exact (h.cell (p := ⟨w.heap.size, 4, none⟩) (by simp; omega)).trans ((hbb.cell (p := ⟨w.heap.size, 4, none⟩) (by simp)).trans q3)
    · exact (h.cell (p := ⟨w.heap.size + 1, 4, none⟩) (by simp)).trans q4)
  clear h1 h2 h3 h4 hk hk2
  cases e1 : (m.nm.toList == o.nm.toList) with
  | false =>
    have HN : Hid (sameM m o = false) := Lib.hid (by rw [HS.out, e1]; rfl)
    clear HS
    go_enter Tryz.func9, Tryz.ntmps9
    go_wp2
    go_ret
    exact ⟨rb (by rw [HN.out]), hb⟩

  | true =>
    cases e2 : (m.fn == o.fn) with
    | false =>
      have HN : Hid (sameM m o = false) := Lib.hid (by rw [HS.out, e1, e2]; rfl)
      clear HS
      go_enter Tryz.func9, Tryz.ntmps9
      go_wp2
      go_ret
      exact ⟨rb (by rw [HN.out]), hb⟩

    | true =>
      cases e4 : (m.vr == o.vr) with
      | false =>
        have HN : Hid (sameM m o = false) := Lib.hid (by rw [HS.out, e1, e2, e4]; cases sameTx m.ps o.ps <;> rfl)
        clear HS
        go_enter Tryz.func9, Tryz.ntmps9
        go_wp2
        go_ret
        exact ⟨rb (by rw [HN.out]), hb⟩

      | true =>
        cases e3 : sameTx m.ps o.ps with
        | false =>
          rw [e3] at CE
          have HN : Hid (sameM m o = false) := Lib.hid (by rw [HS.out, e1, e2, e3]; rfl)
          clear HS
          go_enter Tryz.func9, Tryz.ntmps9
          go_wp2_with fail
          refine CE.mono ?_
          rintro e v1 ⟨rfl, hbv1⟩
          go_wp2
          go_ret
          exact ⟨rb (by rw [HN.out]), hb.trans (hbv1.mono hb.size)⟩
        | true =>
          rw [e3] at CE
          have HN : Hid (sameM m o = samePs m.bs o.bs) := Lib.hid (by rw [HS.out, e1, e2, e3, e4]; rfl)
          clear HS
          go_enter Tryz.func9, Tryz.ntmps9
          go_wp2_with fail
          refine CE.mono ?_
          rintro e v1 ⟨rfl, hbv1⟩
          obtain ⟨x1, x2, x3, x4⟩ := HC.out v1 hbv1
          have hB1 := hb.trans (hbv1.mono hb.size)
          go_wp2_with fail
          refine (CF v1 hB1).mono ?_
          rintro e v2 ⟨rfl, hbv2⟩
          go_wp2
          go_ret
          exact ⟨rb (by rw [HN.out]), hB1.trans (hbv2.mono hB1.size)⟩


end Go.Proofs.YtaodjipnffgihaaGreat
