/- lines.Alike: do two lists of rows say the same. -/
import Derived.Test.YtpomcdolpmbhdaaLnSame
import Derived.Test.YtpomcdolpmbhdaaLnIdx
import Derived.Test.YtpomcdolpmbhdaaLAlike
import Derived.WalkMore
namespace Go.Proofs.Ytpomcdolpmbhdaa
open Go.RowKit Go.Shelf

/-- Two lists without runs that say nothing. -/
def alX (keep : Bool) (x y : List Rz) : Bool := x.length == y.length && rowsAl keep x y
theorem alX_cons (keep : Bool) (p q : Rz) (x y : List Rz) : alX keep (p :: x) (q :: y) = (rowAl keep p q && alX keep x y) := by
  unfold alX
  rw [rowsAl, List.length_cons, List.length_cons]
  have e : (x.length + 1 == y.length + 1) = (x.length == y.length) := by rw [Bool.eq_iff_iff]; simp
  rw [e]
  cases rowAl keep p q <;> cases (x.length == y.length) <;> simp
theorem alX_nil (keep : Bool) (p : Rz) (x : List Rz) : alX keep (p :: x) [] = false := by
  unfold alX
  simp
theorem alX_end (keep : Bool) (y : List Rz) : alX keep [] y = y.isEmpty := by
  unfold alX rowsAl
  cases y <;> simp
theorem lessS_drop {l : List Rz} {k : Nat} {r : Rz} (h : l[k]? = some r) : lessS (l.drop k) = if tellsB r then r :: lessS (l.drop (k + 1)) else lessS (l.drop (k + 1)) := by
  rw [List.drop_eq_getElem_cons (List.getElem?_eq_some_iff.1 h).1, (List.getElem?_eq_some_iff.1 h).2]
  unfold lessS
  rw [List.filter_cons]
theorem lessS_none {l : List Rz} : (lessS l).isEmpty = !(l.any tellsB) := by
  unfold lessS
  induction l with
  | nil => rfl
  | cons r l ih =>
    rw [List.filter_cons, List.any_cons]
    cases tellsB r
    · simpa using ih
    · rfl
theorem RzAt.drop {W : World} {B b o : Nat} {rs : List Rz} (h : RzAt W B b o rs) (i : Nat) : RzAt W B b (o + i * 3) (rs.drop i) := fun j r hr => by
  rw [List.getElem?_drop] at hr
  have := h (i + j) r hr
  have e : o + (i + j) * 3 = o + i * 3 + j * 3 := by omega
  rw [e] at this
  exact this

set_option maxRecDepth 100000 in
set_option maxHeartbeats 8000000 in
theorem alike_any : AlikeOk := by
  intro n1 n2 c1 c2 a1 a2 keep w rs qs hn1 hn2 hb1 hb2 hc2 ht1 ht2 hT1 hT2
  have hf1 : RowsFit rs := fun r h => ⟨(ht1 r h).1, fun t ht => Nat.le_trans ((ht1 r h).2 t ht) (by decide)⟩
  have hf2 : RowsFit qs := fun r h => ⟨(ht2 r h).1, fun t ht => Nat.le_trans ((ht2 r h).2 t ht) (by decide)⟩
  have HN1 := Lib.hid hn1
  have HN2 := Lib.hid hn2
  have HT1 := Lib.hid hT1
  have HF1 := Lib.hid hf1
  have HQ0 : Hid (RowsFit qs ∧ RzIn w a2 qs) := Lib.hid ⟨hf2, hT2⟩
  obtain ⟨R, hR⟩ : ∃ R, alikeS rs qs keep = R := ⟨_, rfl⟩
  have HR : Hid (R = alX keep (lessS (rs.drop 0)) (lessS qs)) := Lib.hid hR.symm
  rw [hR]
  have hq2 : qs.length ≤ n2 := by omega
  clear hn1 hn2 hT1 hT2 hf1 hf2 ht1 ht2 hR
  go_enter Try.func19, Try.ntmps19
  go_wp2
  go_step3
  go_wp2
  go_step3
  go_wp2
  go_loopg [7, 15] n1 (fun gh rest i wx => ∃ (k m : Nat) (Q : List Rz) (ar : Option Addr) (cr : Nat), k ≤ n1 ∧ m ≤ n2 ∧ m ≤ cr ∧ rest = .slice ar m cr ∧ i = .int .i64 k ∧ gh = n1 - k ∧ Hid (Q.length = m) ∧ Hid (RowsFit Q ∧ RzIn wx ar Q) ∧ Hid (R = alX keep (lessS (rs.drop k)) (lessS Q)) ∧ Below w.heap.size w wx)
  case atStart => exact ⟨0, n2, qs, a2, c2, Nat.zero_le _, Nat.le_refl _, hc2, rfl, rfl, rfl, HN2, HQ0, HR, Below.refl _ _⟩
  case round =>
    obtain ⟨k, m, Q, ar, cr, hk, hm, hmc, rfl, rfl, rfl, HM, HQ, HK, hbx⟩ := hrel
    by_cases hlt : k < n1
    · obtain ⟨r, hr⟩ : ∃ r, rs[k]? = some r := ⟨_, List.getElem?_eq_getElem (by rw [HN1.out]; exact hlt)⟩
      obtain ⟨b, o, rfl, hg1, hrz⟩ := HT1.out (by rw [HN1.out]; omega)
      obtain ⟨c0, c1', ta, tcap, c2', htk⟩ := (hrz.below hbx hg1) k r hr
      obtain ⟨hrl, hrx⟩ := HF1.out r (List.mem_of_getElem? hr)
      have hst := HK.out
      rw [lessS_drop hr] at hst
      have CT := tells_any r ta tcap (wr.alloc (.cells #[.bool r.d, .string r.nm, .slice ta r.ts.length tcap] 28)) hrl hrx (TzIn.below (htk.mono hbx.size) (below1 wr _))
      have HS := Lib.hid hst
      have HRX := Lib.hid hrx
      have HTK := Lib.hid htk
      clear hr hrz htk hrx hst HK
      have hbs := hbx.size
      have j1 : (k : Int) < (n1 : Int) := by omega
      have j0 : (0 : Int) ≤ (k : Int) := by omega
      have hbw := below1 wr (.cells #[.bool r.d, .string r.nm, .slice ta r.ts.length tcap] 28)
      have hk1 := mcells (w := wr) (vs := #[.bool r.d, .string r.nm, .slice ta r.ts.length tcap]) (t := 28)
      have k0 := hk1 0 _ rfl
      have k1 := hk1 1 _ rfl
      have k2 := hk1 2 _ rfl
      clear hk1
      have hwz : wr.heap.size < (wr.alloc (.cells #[.bool r.d, .string r.nm, .slice ta r.ts.length tcap] 28)).heap.size := by simp
      cases htl : tellsB r with
      | false =>
        rw [htl] at CT
        have HS2 : Hid (R = alX keep (lessS (rs.drop (k + 1))) (lessS Q)) := Lib.hid (by rw [HS.out, htl]; rfl)
        clear HS htl
        go_wp2_with fail
        refine CT.mono ?_
        rintro e w1 ⟨rfl, hb1⟩
        have hW1 : Below wr.heap.size wr w1 := hbw.trans (hb1.mono hbw.size)
        have hB1 := hbx.trans (hW1.mono hbx.size)
        have HQ1 : Hid (RowsFit Q ∧ RzIn w1 ar Q) := Lib.hid ⟨HQ.out.1, HQ.out.2.below hW1⟩
        clear CT HQ
        go_wp2
        go_roundg (n1 - (k + 1))
        case rel => exact ⟨k + 1, m, Q, ar, cr, by omega, hm, hmc, rfl, by go_num, rfl, HM, HQ1, HS2, hB1⟩
        case measure => omega
      | true =>
        rw [htl] at CT
        have HS2 : Hid (R = alX keep (r :: lessS (rs.drop (k + 1))) (lessS (Q.drop 0))) := Lib.hid (by rw [HS.out, htl]; rfl)
        clear HS htl
        go_wp2_with fail
        refine CT.mono ?_
        rintro e w1 ⟨rfl, hb1⟩
        have hW1 : Below wr.heap.size wr w1 := hbw.trans (hb1.mono hbw.size)
        have hB1 := hbx.trans (hW1.mono hbx.size)
        have HQ1 : Hid (RowsFit Q ∧ RzIn w1 ar Q) := Lib.hid ⟨HQ.out.1, HQ.out.2.below hW1⟩
        have e0 := (hb1.cell (p := ⟨wr.heap.size, 0, none⟩) hwz).trans k0
        have e1 := (hb1.cell (p := ⟨wr.heap.size, 1, none⟩) hwz).trans k1
        have e2 := (hb1.cell (p := ⟨wr.heap.size, 2, none⟩) hwz).trans k2
        have HTK1 : Hid (TzIn w1 ta r.ts) := Lib.hid (TzIn.below (HTK.out.mono hbs) hW1)
        have hbz : wr.heap.size < w1.heap.size := Nat.lt_of_lt_of_le hwz hb1.size
        obtain ⟨B, hB⟩ : ∃ B, wr.heap.size = B := ⟨_, rfl⟩
        rw [hB] at e0 e1 e2 hbz
        clear CT HQ k0 k1 k2 HTK hbw hwz hW1 hb1
        rw [hB]
        clear hB
        go_wp2
        go_loopg [7, 24] m (fun gh2 rest i2 wx => ∃ j : Nat, j ≤ m ∧ rest = .slice ar m cr ∧ i2 = .int .i64 j ∧ gh2 = m - j ∧ Hid (R = alX keep (r :: lessS (rs.drop (k + 1))) (lessS (Q.drop j))) ∧ Below w1.heap.size w1 wx)
        case atStart => exact ⟨0, Nat.zero_le _, rfl, rfl, rfl, HS2, Below.refl _ _⟩
        case round =>
          obtain ⟨j, hj, rfl, rfl, rfl, HJ, hbj⟩ := hrel
          have hBj := hB1.trans (hbj.mono hB1.size)
          by_cases hjl : j < m
          · obtain ⟨s, hs⟩ : ∃ s, Q[j]? = some s := ⟨_, List.getElem?_eq_getElem (by rw [HM.out]; exact hjl)⟩
            obtain ⟨b2, o2, rfl, hg2, hrz2⟩ := HQ1.out.2 (by rw [HM.out]; omega)
            have hrz2x := hrz2.below hbj hg2
            obtain ⟨d0, d1, tb, tbcap, d2, htk2⟩ := hrz2x j s hs
            obtain ⟨hsl, hsx⟩ := HQ1.out.1 s (List.mem_of_getElem? hs)
            have hst := HJ.out
            rw [lessS_drop hs] at hst
            have htk2r : TzIn wr tb s.ts := htk2.mono hbj.size
            have hbw2 := below1 wr (.cells #[.bool s.d, .string s.nm, .slice tb s.ts.length tbcap] 28)
            have CT := tells_any s tb tbcap (wr.alloc (.cells #[.bool s.d, .string s.nm, .slice tb s.ts.length tbcap] 28)) hsl hsx (htk2r.below hbw2)
            have CS := fun (w' : World) (hb : Below wr.heap.size wr w') => sameRow_any r s ta tb tcap tbcap keep w' hrl hsl HRX.out hsx ((HTK1.out.below hbj).below hb) (htk2r.below hb)
            have HS := Lib.hid hst
            clear hs hrz2 hrz2x htk2 htk2r hsx hst HJ
            have hbjs := hbj.size
            have i1 : (j : Int) < (m : Int) := by omega
            have i0 : (0 : Int) ≤ (j : Int) := by omega
            have hk2 := mcells (w := wr) (vs := #[.bool s.d, .string s.nm, .slice tb s.ts.length tbcap]) (t := 28)
            have k0 := hk2 0 _ rfl
            have k1 := hk2 1 _ rfl
            have k2 := hk2 2 _ rfl
            clear hk2
            have hwz : wr.heap.size < (wr.alloc (.cells #[.bool s.d, .string s.nm, .slice tb s.ts.length tbcap] 28)).heap.size := by simp
            cases htl2 : tellsB s with
            | false =>
              rw [htl2] at CT
              have HS3 : Hid (R = alX keep (r :: lessS (rs.drop (k + 1))) (lessS (Q.drop (j + 1)))) := Lib.hid (by rw [HS.out, htl2]; rfl)
              clear HS htl2 CS
              go_wp2_with fail
              refine CT.mono ?_
              rintro e w2 ⟨rfl, hb2⟩
              have hW2 : Below wr.heap.size wr w2 := hbw2.trans (hb2.mono hbw2.size)
              have hb12 := hbj.trans (hW2.mono hbj.size)
              clear CT
              go_wp2
              go_roundg (m - (j + 1))
              case rel => exact ⟨j + 1, by omega, rfl, by go_num, rfl, HS3, hb12⟩
              case measure => omega
            | true =>
              rw [htl2] at CT
              have HS3 : Hid (R = (rowAl keep r s && alX keep (lessS (rs.drop (k + 1))) (lessS (Q.drop (j + 1))))) := Lib.hid (by rw [HS.out, htl2, if_pos rfl, alX_cons])
              clear HS htl2
              go_wp2_with fail
              refine CT.mono ?_
              rintro e w2 ⟨rfl, hb2⟩
              have hW2 : Below wr.heap.size wr w2 := hbw2.trans (hb2.mono hbw2.size)
              have f0 := (hb2.cell (p := ⟨wr.heap.size, 0, none⟩) hwz).trans k0
              have f1 := (hb2.cell (p := ⟨wr.heap.size, 1, none⟩) hwz).trans k1
              have f2 := (hb2.cell (p := ⟨wr.heap.size, 2, none⟩) hwz).trans k2
              have hb1w : Below w1.heap.size w1 w2 := hbj.trans (hW2.mono hbj.size)
              have g0 := (hb1w.cell (p := ⟨B, 0, none⟩) hbz).trans e0
              have g1 := (hb1w.cell (p := ⟨B, 1, none⟩) hbz).trans e1
              have g2 := (hb1w.cell (p := ⟨B, 2, none⟩) hbz).trans e2
              have CS2 := CS w2 hW2
              clear CT CS k0 k1 k2 hb2
              cases hsr : rowAl keep r s with
              | false =>
                rw [hsr] at CS2
                have HS4 : Hid (R = false) := Lib.hid (by rw [HS3.out, hsr]; rfl)
                clear HS3 hsr
                go_wp2_with fail
                refine CS2.mono ?_
                rintro e w3 ⟨rfl, hb3⟩
                have hB3 := hB1.trans ((hb1w.trans (hb3.mono hb1w.size)).mono hB1.size)
                clear CS2
                go_wp2
                try rw [Exit.noGoto_ret]
                go_ret
                exact ⟨rb (by rw [HS4.out]), hB3⟩
              | true =>
                rw [hsr] at CS2
                have HS4 : Hid (R = alX keep (lessS (rs.drop (k + 1))) (lessS (Q.drop (j + 1)))) := Lib.hid (by rw [HS3.out, hsr]; rfl)
                clear HS3 hsr
                go_wp2_with fail
                refine CS2.mono ?_
                rintro e w3 ⟨rfl, hb3⟩
                have hb13 := hb1w.trans (hb3.mono hb1w.size)
                have hB3 := hB1.trans (hb13.mono hB1.size)
                have HQ3 : Hid (RowsFit (Q.drop (j + 1)) ∧ ∀ B3, B3 = (some ⟨b2, o2 + (j + 1) * 3, none⟩ : Option Addr) → RzIn w3 B3 (Q.drop (j + 1))) := Lib.hid ⟨fun x hx => HQ1.out.1 x (List.mem_of_mem_drop hx), by
                  rintro _ rfl hp
                  have h1 := HQ1.out.2.below hb13 (by rw [List.length_drop] at hp; omega)
                  obtain ⟨b3, o3, e3, hg3, hz3⟩ := h1
                  cases e3
                  exact ⟨b2, o2 + (j + 1) * 3, rfl, hg3, hz3.drop (j + 1)⟩⟩
                have HM3 : Hid ((Q.drop (j + 1)).length = m - (j + 1)) := Lib.hid (by rw [List.length_drop, HM.out])
                have v3 : (0 : Int) ≤ (j : Int) + 1 := by omega
                have v4 : (j : Int) + 1 ≤ (m : Int) := by omega
                clear CS2 g0 g1 g2 f0 f1 f2 hb3 e0 e1 e2
                by_cases hcap : cr = j + 1
                · subst hcap
                  go_wp2
                  go_roundg (n1 - (k + 1))
                  case rel => exact ⟨k + 1, 0, Q.drop (j + 1), _, 0, by omega, by omega, by omega, rfl, by go_num, rfl, Lib.hid (by rw [HM3.out]; omega), Lib.hid ⟨HQ3.out.1, fun hp => absurd hp (by rw [HM3.out]; omega)⟩, HS4, hB3⟩
                  case measure => omega
                · have v5 : ¬ (cr : Int) = (j : Int) + 1 := by omega
                  go_wp2
                  go_roundg (n1 - (k + 1))
                  case rel => exact ⟨k + 1, m - (j + 1), Q.drop (j + 1), _, _, by omega, by omega, by omega, rfl, by go_num, rfl, HM3, Lib.hid ⟨HQ3.out.1, HQ3.out.2 _ rfl⟩, HS4, hB3⟩
                  case measure => omega
          · have HE : Hid (R = false) := Lib.hid (by rw [HJ.out, show Q.drop j = [] from List.drop_eq_nil_of_le (by rw [HM.out]; omega)]; exact alX_nil _ _ _)
            clear HJ
            go_wp2
            try rw [Exit.noGoto_ret]
            go_ret
            exact ⟨rb (by rw [HE.out]), hBj⟩
    · have HE : Hid (R = !(Q.any tellsB)) := Lib.hid (by
        rw [HK.out, List.drop_eq_nil_of_le (by rw [HN1.out]; omega), ← lessS_none]; exact alX_end keep _)
      have CC := containsFunc_any Q m cr ar wr HM.out (by omega) HQ.out.1 HQ.out.2
      clear HK HQ
      go_wp2_with fail
      refine CC.mono ?_
      rintro e w1 ⟨rfl, hb1⟩
      have hB1 := hbx.trans (hb1.mono hbx.size)
      cases hq : Q.any tellsB with
      | true =>
        have HE2 : Hid (R = false) := Lib.hid (by rw [HE.out, hq]; rfl)
        clear HE hq CC
        go_wp2
        try rw [Exit.noGoto_ret]
        go_ret
        exact ⟨rb (by rw [HE2.out]), hB1⟩
      | false =>
        have HE2 : Hid (R = true) := Lib.hid (by rw [HE.out, hq]; rfl)
        clear HE hq CC
        go_wp2
        try rw [Exit.noGoto_ret]
        go_ret
        exact ⟨rb (by rw [HE2.out]), hB1⟩

end Go.Proofs.Ytpomcdolpmbhdaa
