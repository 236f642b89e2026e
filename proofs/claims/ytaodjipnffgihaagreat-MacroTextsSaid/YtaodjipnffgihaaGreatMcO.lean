/- The document's answer, layer 5: params. -/
import Derived.Test.YtaodjipnffgihaaGreatMcN
import Derived.Test.YtaodjipnffgihaaGreatMcP
namespace Go.Proofs.YtaodjipnffgihaaGreat
open Go.RowKit Go.Shelf

theorem atP_some {ts : List Tz} {i : Nat} {t : Tz} (h : ts[i]? = some t) (l : List UInt8) : atP ts i l = isP t l := by unfold atP; rw [h]
theorem atP_none {ts : List Tz} {i : Nat} (h : ts.length ≤ i) (l : List UInt8) : atP ts i l = false := by unfold atP; rw [List.getElem?_eq_none h]
theorem atP_other {ts : List Tz} {i : Nat} {l r : List UInt8} (hne : l ≠ r) (h : atP ts i l = true) : atP ts i r = false := by
  unfold atP at h ⊢
  cases ht : ts[i]? with
  | none => rfl
  | some t =>
    rw [ht] at h
    simp only at h ⊢
    unfold isP at h ⊢
    rw [Bool.and_eq_true] at h
    cases hr : (t.k == 5 && t.tx.toList == r) with
    | false => rfl
    | true =>
      rw [Bool.and_eq_true] at hr
      exact absurd ((eq_of_beq h.2).symm.trans (eq_of_beq hr.2)) hne
theorem parP_at {ts : List Tz} {i : Nat} {t : Tz} (h : ts[i]? = some t) (acc : List ByteArray) : parP acc (ts.drop i) = if isP t [46, 46, 46] then (if atP ts (i + 1) [41] then finS acc true (ts.drop (i + 2)) else none) else if wordP t then (if atP ts (i + 1) [44] then parP (acc ++ [t.tx]) (ts.drop (i + 2)) else if atP ts (i + 1) [41] then finS (acc ++ [t.tx]) false (ts.drop (i + 2)) else none) else none := by
  rw [List.drop_eq_getElem_cons (List.getElem?_eq_some_iff.1 h).1, (List.getElem?_eq_some_iff.1 h).2]
  by_cases hi : i + 1 < ts.length
  · obtain ⟨u, hu⟩ : ∃ u, ts[i + 1]? = some u := ⟨_, List.getElem?_eq_getElem hi⟩
    rw [List.drop_eq_getElem_cons hi, (List.getElem?_eq_some_iff.1 hu).2, parP_two, atP_some hu, atP_some hu]
  · rw [List.drop_eq_nil_of_le (by omega), atP_none (by omega), atP_none (by omega)]
    have e : parP acc [t] = none := by unfold parP; rfl
    rw [e]
    simp
/-- What params answers. -/
def ParRes (w : World) (n : Nat) (x : Option (List ByteArray × Bool × List Tz)) (e : Ending) (w' : World) : Prop :=
  (match x with
    | none => e = .returned (.tuple #[.slice none 0 0, .bool false, .int .i64 (-1)])
    | some (ps, vr, l) => ∃ v, e = .returned (.tuple #[v, .bool vr, .int .i64 (n - l.length : Nat)]) ∧ w'.ownsRow w.heap.size 9 1 v ps.length (stV ps)) ∧ Below w.heap.size w w'
theorem ParRes.no {w w' : World} {n : Nat} {x : Option (List ByteArray × Bool × List Tz)} {e : Ending} (hx : x = none) (he : e = .returned (.tuple #[.slice none 0 0, .bool false, .int .i64 (-1)])) (hb : Below w.heap.size w w') : ParRes w n x e w' := by
  subst hx; exact ⟨he, hb⟩
theorem ParRes.yes {w w' : World} {n p : Nat} {x : Option (List ByteArray × Bool × List Tz)} {e : Ending} {ps : List ByteArray} {vr : Bool} {l : List Tz} {v : Value} {z : Int} (hx : x = some (ps, vr, l)) (hz : z = ((n - l.length : Nat) : Int)) (hp : ps.length = p) (he : e = .returned (.tuple #[v, .bool vr, .int .i64 z])) (hr : w'.ownsRow w.heap.size 9 1 v p (stV ps)) (hb : Below w.heap.size w w') : ParRes w n x e w' := by
  subst hx hp hz; exact ⟨⟨v, he, hr⟩, hb⟩

set_option maxRecDepth 100000 in
set_option maxHeartbeats 16000000 in
theorem rParams_any (ts : List Tz) (n cap i0 : Nat) (b o : Nat) (w : World) (hn : ts.length = n) (hi0 : i0 ≤ n) (hn2 : n * 48 ≤ 140737488355328) (hg : b < w.heap.size) (hr : TzAt w b o ts) :
    Calls Tryz.prog 44 #[.slice (some ⟨b, o, none⟩) n cap, .int .i64 i0] w (ParRes w n (cutP (ts.drop i0))) := by
  obtain ⟨j0, hj, hy0, hy1, hy2⟩ := info_parts infoS
  have HN := Lib.hid hn
  have HT : Hid (∀ W, Below w.heap.size w W → TzIn W (some ⟨b, o, none⟩) ts) := Lib.hid (fun W h _ => ⟨b, o, rfl, Nat.lt_of_lt_of_le hg h.size, hr.below h hg⟩)
  have HTZ : Hid (∀ W, Below w.heap.size w W → TzAt W b o ts) := Lib.hid (fun W h => hr.below h hg)
  have C0 := rat_any ts n cap i0 (some ⟨b, o, none⟩) ⟨#[41]⟩ [41] w (Lib.toList_data _) hn hn2 (fun _ => ⟨b, o, rfl, hg, hr⟩)
  obtain ⟨R, hR⟩ : ∃ R, cutP (ts.drop i0) = R := ⟨_, rfl⟩
  have HR := Lib.hid hR
  rw [hR]
  have q0 : (0 : Int) ≤ (i0 : Int) := by omega
  clear hR hr
  cases hc0 : atP ts i0 [41] with
  | true =>
    have hRS : Hid (R = some ([], false, ts.drop (i0 + 1))) := Lib.hid (by
      rw [← HR.out]
      unfold atP at hc0
      cases ht : ts[i0]? with
      | none => rw [ht] at hc0; cases hc0
      | some t =>
        rw [ht] at hc0
        rw [List.drop_eq_getElem_cons (List.getElem?_eq_some_iff.1 ht).1, (List.getElem?_eq_some_iff.1 ht).2]
        unfold cutP
        simp only
        rw [if_pos hc0])
    have hlt : i0 < n := by
      refine Nat.lt_of_not_le (fun h => ?_)
      rw [atP_none (by rw [hn]; exact h)] at hc0
      cases hc0
    rw [hc0] at C0
    clear hn HR hc0
    go_enter Tryz.func44, Tryz.ntmps44
    go_wp2_with fail
    refine C0.mono ?_
    rintro e w1 ⟨rfl, rfl⟩
    clear C0
    go_wp2
    go_ret3
    exact ParRes.yes hRS.out (by rw [List.length_drop, HN.out]; omega) rfl rfl (World.ownsRow_nil _ _ _ _) (Below.refl _ _)
  | false =>
    have HR2 : Hid (R = parP [] (ts.drop i0)) := Lib.hid (by
      rw [← HR.out]
      by_cases hlt : i0 < ts.length
      · obtain ⟨t, ht⟩ : ∃ t, ts[i0]? = some t := ⟨_, List.getElem?_eq_getElem hlt⟩
        rw [atP_some ht] at hc0
        rw [List.drop_eq_getElem_cons (List.getElem?_eq_some_iff.1 ht).1, (List.getElem?_eq_some_iff.1 ht).2]
        unfold cutP
        simp only
        rw [if_neg (by rw [hc0]; decide)]
      · rw [List.drop_eq_nil_of_le (by omega)]
        unfold cutP parP
        rfl)
    rw [hc0] at C0
    clear hn HR hc0
    go_enter Tryz.func44, Tryz.ntmps44
    go_wp2_with fail
    refine C0.mono ?_
    rintro e w1 ⟨rfl, rfl⟩
    clear C0
    go_wp2
    go_loopg [1, 7] (n - i0) (fun g iv v wx => ∃ (i p : Nat) (acc : List ByteArray), i ≤ n ∧ iv = .int .i64 i ∧ g = n - i ∧ p ≤ i ∧ Hid (R = parP acc (ts.drop i)) ∧ Hid (acc.length = p) ∧ Hid (distS acc = true) ∧ wx.ownsRow w.heap.size 9 1 v p (stV acc) ∧ Below w.heap.size w wx)
    case atStart => exact ⟨i0, 0, [], hi0, rfl, rfl, Nat.zero_le _, HR2, Lib.hid rfl, Lib.hid rfl, World.ownsRow_nil _ _ _ _, Below.refl _ _⟩
    case round =>
      obtain ⟨i, p, acc, hi, rfl, rfl, hpi, HK, HAL, HAD, hrow, hbx⟩ := hrel
      by_cases hlt : i < n
      · obtain ⟨t, ht⟩ : ∃ t, ts[i]? = some t := ⟨_, List.getElem?_eq_getElem (by rw [HN.out]; exact hlt)⟩
        obtain ⟨c0, c1, -, -, -⟩ := HTZ.out wr hbx i t ht
        have HB := hbx
        have hst := HK.out
        rw [parP_at ht] at hst
        have HK2 := Lib.hid hst
        have hdt : atP ts i [46, 46, 46] = isP t [46, 46, 46] := atP_some ht _
        have j1 : (i : Int) < (n : Int) := by omega
        have j2 : (0 : Int) ≤ (i : Int) := by omega
        have hn1 : ((i + 1 : Nat) : Int) = (i : Int) + 1 := rfl
        clear hst HK ht
        cases hdots : isP t [46, 46, 46] with
        | true =>
          have C1 := rat_any ts n cap (i) (some ⟨b, o, none⟩) ⟨#[46, 46, 46]⟩ [46, 46, 46] wr (Lib.toList_data _) HN.out hn2 (HT.out wr HB)
          rw [hdt, hdots] at C1

          cases hcl : atP ts (i + 1) [41] with
          | true =>
            have C2 := rat_any ts n cap (i + 1) (some ⟨b, o, none⟩) ⟨#[41]⟩ [41] wr (Lib.toList_data _) HN.out hn2 (HT.out wr hbx)
            rw [hcl] at C2

            have hRS : Hid (R = some (acc, true, ts.drop (i + 2))) := Lib.hid (by rw [HK2.out, if_pos hdots, if_pos hcl, finS_yes HAD.out])
            have hi1 : i + 1 < n := by
              refine Nat.lt_of_not_le (fun h => ?_)
              rw [atP_none (by rw [HN.out]; exact h)] at hcl
              cases hcl
            clear HK2
            go_wp2_with fail
            refine C1.mono ?_
            rintro e _ ⟨rfl, rfl⟩
            clear C1
            go_wp2_with fail
            refine C2.mono ?_
            rintro e _ ⟨rfl, rfl⟩
            clear C2

            go_wp2
            go_ret3
            exact ParRes.yes hRS.out (by rw [List.length_drop, HN.out]; omega) HAL.out rfl hrow hbx
          | false =>
            have C2 := rat_any ts n cap (i + 1) (some ⟨b, o, none⟩) ⟨#[41]⟩ [41] wr (Lib.toList_data _) HN.out hn2 (HT.out wr hbx)
            rw [hcl] at C2
            have hRN : Hid (R = none) := Lib.hid (by rw [HK2.out, if_pos hdots, if_neg (by rw [hcl]; decide)])
            clear HK2
            go_wp2_with fail
            refine C1.mono ?_
            rintro e _ ⟨rfl, rfl⟩
            clear C1
            go_wp2_with fail
            refine C2.mono ?_
            rintro e _ ⟨rfl, rfl⟩
            clear C2
            go_wp2
            go_ret3
            exact ParRes.no hRN.out rfl hbx

        | false =>
          have C1 := rat_any ts n cap (i) (some ⟨b, o, none⟩) ⟨#[46, 46, 46]⟩ [46, 46, 46] wr (Lib.toList_data _) HN.out hn2 (HT.out wr HB)
          rw [hdt, hdots] at C1

          cases hk1 : (t.k == 1) with
          | false =>
            have hkn : (t.k != 1) = true := by unfold bne; rw [hk1]; rfl
            have hRN : Hid (R = none) := Lib.hid (by rw [HK2.out, if_neg (by rw [hdots]; decide), if_neg (by unfold wordP; rw [hk1]; simp)])
            clear HK2
            go_wp2_with fail
            refine C1.mono ?_
            rintro e _ ⟨rfl, rfl⟩
            clear C1
            go_wp2
            go_ret3
            exact ParRes.no hRN.out rfl hbx

          | true =>
            have hkn : (t.k != 1) = false := by unfold bne; rw [hk1]; rfl
            cases hva : (t.tx.toList == [95, 95, 86, 65, 95, 65, 82, 71, 83, 95, 95]) with
            | true =>
              have hRN : Hid (R = none) := Lib.hid (by rw [HK2.out, if_neg (by rw [hdots]; decide), if_neg (by unfold wordP vaL; rw [hva]; simp)])
              clear HK2
              go_wp2_with fail
              refine C1.mono ?_
              rintro e _ ⟨rfl, rfl⟩
              clear C1
              go_wp2
              go_ret3
              exact ParRes.no hRN.out rfl hbx

            | false =>
              have hw : wordP t = true := by unfold wordP vaL; rw [hk1, hva]; rfl
              have C3 := rAmong_any acc t.tx p
              cases ham : amongS acc t.tx with
              | true =>
                rw [ham] at C3
                have hd2 : distS (acc ++ [t.tx]) = false := by rw [distS_snoc, ham, Bool.not_true, Bool.and_false]
                have hRN : Hid (R = none) := Lib.hid (by rw [HK2.out, if_neg (by rw [hdots]; decide), if_pos hw, parP_no _ _ _ (Nat.le_refl _) hd2, finS_no hd2]; simp)
                clear HK2
                obtain ⟨pa, pcap, rfl⟩ := row_shape hrow
                go_wp2_with fail
                refine C1.mono ?_
                rintro e _ ⟨rfl, rfl⟩
                clear C1
                go_wp2_with fail
                refine (C3 pcap pa _ HAL.out (by omega) (strIn_row HAL.out hrow)).mono ?_
                rintro e _ ⟨rfl, rfl⟩
                go_wp2
                go_ret3
                exact ParRes.no hRN.out rfl hbx

              | false =>
                rw [ham] at C3
                have hd2 : distS (acc ++ [t.tx]) = true := by rw [distS_snoc, ham, HAD.out]; rfl
                have HAL2 : Hid ((acc ++ [t.tx]).length = p + 1) := Lib.hid (by rw [List.length_append, HAL.out]; rfl)
                obtain ⟨pa, pcap, rfl⟩ := row_shape hrow
                go_wp2_with fail
                refine C1.mono ?_
                rintro e _ ⟨rfl, rfl⟩
                clear C1
                go_wp2_with fail
                refine (C3 pcap pa _ HAL.out (by omega) (strIn_row HAL.out hrow)).mono ?_
                rintro e _ ⟨rfl, rfl⟩
                clear C3
                go_wp2_with (first
                  | (at_builtin; refine wpList_append_own _ rfl _ _ 22 rfl w.heap.size 9 j0 (.string ⟨#[]⟩) 1 16 Tryz.underlying22 hj hy0 hy1 hy2 rfl (by decide) _ _ _ rfl (hrow.alloc _) ⟨wr.heap.size, 0, none⟩ 1 1 [.string t.tx] rfl rfl (cellS_new _ _ _) (by simp [Value.oneCell']) (by unfold maxLen; omega) (by omega) (by have := hbx.size; simp; omega) ?_; intro pv w3 hrow2 hgrow hn3; clear hn3)
                  | fail)
                have hL4 := hrow.lt
                have hB3 := (hbx.alloc hbx.size (.cells #[.string t.tx] 9)).grown hgrow (by have := hbx.size; simp; omega) (fun j e => (hL4 j e).1)
                rw [← stV_snoc] at hrow2
                clear hL4 hgrow hrow c0 c1 hdt
                cases hcl : atP ts (i + 1) [41] with
                | true =>
                  have C2 := rat_any ts n cap (i + 1) (some ⟨b, o, none⟩) ⟨#[41]⟩ [41] w3 (Lib.toList_data _) HN.out hn2 (HT.out w3 hB3)
                  rw [hcl] at C2
                  have hco := atP_other (r := [44]) (by decide) hcl
                  have hi1 : i + 1 < n := by
                    refine Nat.lt_of_not_le (fun h => ?_)
                    rw [atP_none (by rw [HN.out]; exact h)] at hcl
                    cases hcl
                  have hRS : Hid (R = some (acc ++ [t.tx], false, ts.drop (i + 2))) := Lib.hid (by rw [HK2.out, if_neg (by rw [hdots]; decide), if_pos hw, if_neg (by rw [hco]; decide), if_pos hcl, finS_yes hd2])
                  clear HK2
                  refine C2.mono ?_
                  rintro e _ ⟨rfl, rfl⟩
                  clear C2
                  go_wp2
                  go_ret3
                  exact ParRes.yes hRS.out (by rw [List.length_drop, HN.out]; omega) HAL2.out rfl hrow2 hB3

                | false =>
                  have C2 := rat_any ts n cap (i + 1) (some ⟨b, o, none⟩) ⟨#[41]⟩ [41] w3 (Lib.toList_data _) HN.out hn2 (HT.out w3 hB3)
                  rw [hcl] at C2

                  cases hco : atP ts (i + 1) [44] with
                  | true =>
                    have C4 := rat_any ts n cap (i + 1) (some ⟨b, o, none⟩) ⟨#[44]⟩ [44] w3 (Lib.toList_data _) HN.out hn2 (HT.out w3 hB3)
                    rw [hco] at C4
                    have hi1 : i + 1 < n := by
                      refine Nat.lt_of_not_le (fun h => ?_)
                      rw [atP_none (by rw [HN.out]; exact h)] at hco
                      cases hco
                    have HK3 : Hid (R = parP (acc ++ [t.tx]) (ts.drop (i + 2))) := Lib.hid (by rw [HK2.out, if_neg (by rw [hdots]; decide), if_pos hw, if_pos hco])
                    clear HK2
                    refine C2.mono ?_
                    rintro e _ ⟨rfl, rfl⟩
                    clear C2
                    go_wp2_with fail
                    refine C4.mono ?_
                    rintro e _ ⟨rfl, rfl⟩
                    clear C4
                    go_wp2
                    go_roundg (n - (i + 2))
                    case rel => exact ⟨i + 2, p + 1, acc ++ [t.tx], by omega, by go_num, rfl, by omega, HK3, HAL2, Lib.hid hd2, hrow2, hB3⟩
                    case measure => omega

                  | false =>
                    have C4 := rat_any ts n cap (i + 1) (some ⟨b, o, none⟩) ⟨#[44]⟩ [44] w3 (Lib.toList_data _) HN.out hn2 (HT.out w3 hB3)
                    rw [hco] at C4
                    have hRN : Hid (R = none) := Lib.hid (by rw [HK2.out, if_neg (by rw [hdots]; decide), if_pos hw, if_neg (by rw [hco]; decide), if_neg (by rw [hcl]; decide)])
                    clear HK2
                    refine C2.mono ?_
                    rintro e _ ⟨rfl, rfl⟩
                    clear C2
                    go_wp2_with fail
                    refine C4.mono ?_
                    rintro e _ ⟨rfl, rfl⟩
                    clear C4
                    go_wp2
                    go_ret3
                    exact ParRes.no hRN.out rfl hB3


      · have hRN : Hid (R = none) := Lib.hid (by
          rw [HK.out, List.drop_eq_nil_of_le (by rw [HN.out]; omega)]
          unfold parP
          rfl)
        have j1 : ¬ (i : Int) < (n : Int) := by omega
        clear HK
        go_wp2
        go_ret3
        exact ParRes.no hRN.out rfl hbx

end Go.Proofs.YtaodjipnffgihaaGreat
