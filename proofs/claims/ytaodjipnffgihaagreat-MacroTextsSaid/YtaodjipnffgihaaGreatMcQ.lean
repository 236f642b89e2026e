/- The document's answer, layer 5: may. -/
import Derived.Test.YtaodjipnffgihaaGreatMcO
import Derived.Deep.QuietTactic
namespace Go.Proofs.YtaodjipnffgihaaGreat
open Go.RowKit Go.Shelf

theorem isP_kind {t : Tz} {l : List UInt8} (h : isP t l = true) : (t.k == 1) = false := by
  unfold isP at h
  rw [Bool.and_eq_true] at h
  have := eq_of_beq h.1
  rw [this]; rfl
theorem isP_other {t : Tz} {l r : List UInt8} (hne : l ≠ r) (h : isP t l = true) : isP t r = false := by
  unfold isP at h ⊢
  rw [Bool.and_eq_true] at h
  cases hr : (t.k == 5 && t.tx.toList == r) with
  | false => rfl
  | true =>
    rw [Bool.and_eq_true] at hr
    exact absurd ((eq_of_beq h.2).symm.trans (eq_of_beq hr.2)) hne
theorem isP_word {t : Tz} (h : (t.k == 1) = true) (l : List UInt8) : isP t l = false := by
  cases hp : isP t l with
  | false => rfl
  | true => rw [isP_kind hp] at h; cases h
theorem mayR_drop {fn vr : Bool} {ps : List ByteArray} {f : Bool} {ts : List Tz} {k : Nat} {t : Tz} (h : ts[k]? = some t) : mayR fn vr ps f (ts.drop k) = (!(pasteB t && (f || (ts.drop (k + 1)).isEmpty)) && oneT fn vr ps t (ts.drop (k + 1)) && mayR fn vr ps false (ts.drop (k + 1))) := by
  rw [List.drop_eq_getElem_cons (List.getElem?_eq_some_iff.1 h).1, (List.getElem?_eq_some_iff.1 h).2, mayR]
theorem drop_empty {ts : List Tz} {n k : Nat} (hn : ts.length = n) (hk : k < n) : (ts.drop (k + 1)).isEmpty = decide (k + 1 = n) := by
  by_cases h : k + 1 = n
  · rw [List.drop_eq_nil_of_le (by omega), decide_eq_true h]; rfl
  · rw [decide_eq_false h]
    cases hd : ts.drop (k + 1) with
    | nil => exact absurd (List.drop_eq_nil_iff.1 hd) (by omega)
    | cons a b => rfl

theorem quiet_at {P : Program} {f : FuncId} {args : Array Value} {w : World} {x : Nat} {v : Value} (h : Calls P f args (w.drewN x) fun e w' => e = .returned v ∧ w.drewN x = w') :
    Calls P f args (w.drewN x) fun e w'' => e = .returned v ∧ ∃ n, w'' = w.drewN n := h.mono fun _ _ ⟨he, hm⟩ => ⟨he, x, hm.symm⟩

set_option maxRecDepth 100000 in
set_option maxHeartbeats 32000000 in
theorem rMay_any (nm : ByteArray) (fn vr : Bool) (ps : List ByteArray) (pa : Option Addr) (pn pc : Nat) (v : Value) (ts : List Tz) (n cap : Nat) (a : Option Addr) (w : World) (hn : ts.length = n) (hn2 : n * 48 ≤ 140737488355328) (hT : TzIn w a ts) (hpn : ps.length = pn) (hpn2 : pn * 16 ≤ 140737488355328) (hpT : StrIn w pa ps) :
    Calls Tryz.prog 45 #[.agg #[.string nm, .bool fn, .slice pa pn pc, .bool vr, v], .slice a n cap] w fun e w' => e = .returned (.bool (mayB fn vr ps ts)) ∧ Below w.heap.size w w' := by
  have hb0 := below1 w (.cells #[.string nm, .bool fn, .slice pa pn pc, .bool vr, v] 25)
  have hkM := mcells (w := w) (vs := #[.string nm, .bool fn, .slice pa pn pc, .bool vr, v]) (t := 25)
  have HN := Lib.hid hn
  have HTI : Hid (∀ W, Below (w.alloc (.cells #[.string nm, .bool fn, .slice pa pn pc, .bool vr, v] 25)).heap.size (w.alloc (.cells #[.string nm, .bool fn, .slice pa pn pc, .bool vr, v] 25)) W → TzIn W a ts) := Lib.hid (fun W h => (hT.below hb0).below h)
  have HPI : Hid (∀ W, Below (w.alloc (.cells #[.string nm, .bool fn, .slice pa pn pc, .bool vr, v] 25)).heap.size (w.alloc (.cells #[.string nm, .bool fn, .slice pa pn pc, .bool vr, v] 25)) W → StrIn W pa ps) := Lib.hid (fun W h => (hpT.below hb0).below h)
  have HCE : Hid (∀ W, Below (w.alloc (.cells #[.string nm, .bool fn, .slice pa pn pc, .bool vr, v] 25)).heap.size (w.alloc (.cells #[.string nm, .bool fn, .slice pa pn pc, .bool vr, v] 25)) W → W.cell? ⟨w.heap.size, 1, none⟩ = some (.bool fn) ∧ W.cell? ⟨w.heap.size, 2, none⟩ = some (.slice pa pn pc) ∧ W.cell? ⟨w.heap.size, 3, none⟩ = some (.bool vr)) := Lib.hid (fun W h =>
    ⟨(h.cell (p := ⟨w.heap.size, 1, none⟩) (by simp)).trans (hkM 1 _ rfl), (h.cell (p := ⟨w.heap.size, 2, none⟩) (by simp)).trans (hkM 2 _ rfl), (h.cell (p := ⟨w.heap.size, 3, none⟩) (by simp)).trans (hkM 3 _ rfl)⟩)
  have HPN := Lib.hid hpn
  obtain ⟨R, hR⟩ : ∃ R, mayB fn vr ps ts = R := ⟨_, rfl⟩
  have HR : Hid (R = mayR fn vr ps (0 == 0) (ts.drop 0)) := Lib.hid (by rw [← hR, ← mayR_eq]; rfl)
  rw [hR]
  clear hn hT hpn hpT hR hkM
  go_enter Tryz.func45, Tryz.ntmps45
  go_wp2
  go_loopw [5] (fun i wx => ∃ k : Nat, k ≤ n ∧ i = .int .i64 k ∧ Hid (R = mayR fn vr ps (k == 0) (ts.drop k)) ∧ Below (w.alloc (.cells #[.string nm, .bool fn, .slice pa pn pc, .bool vr, v] 25)).heap.size (w.alloc (.cells #[.string nm, .bool fn, .slice pa pn pc, .bool vr, v] 25)) wx) (fun i _ => n - (intOf i).toNat)
  case atStart => exact ⟨0, Nat.zero_le _, rfl, HR, Below.refl _ _⟩
  case round =>
    obtain ⟨k, hk, rfl, HK, hbx⟩ := hrel
    by_cases hlt : k < n
    · obtain ⟨t, ht⟩ : ∃ t, ts[k]? = some t := ⟨_, List.getElem?_eq_getElem (by rw [HN.out]; exact hlt)⟩
      have hTI := HTI.out wr hbx
      obtain ⟨b, o, rfl, hg, hr⟩ := hTI (by rw [HN.out]; omega)
      obtain ⟨c0, c1, -, -, -⟩ := hr k t ht
      obtain ⟨m1, m2, m3⟩ := HCE.out wr hbx
      have HTZ : Hid (∀ W : World, Below (w.alloc (.cells #[.string nm, .bool fn, .slice pa pn pc, .bool vr, v] 25)).heap.size (w.alloc (.cells #[.string nm, .bool fn, .slice pa pn pc, .bool vr, v] 25)) W → TzAt W b o ts) := Lib.hid (fun W h => by
        obtain ⟨b', o', e', _, h'⟩ := (HTI.out W h) (by rw [HN.out]; omega)
        cases e'; exact h')
      have CAT := fun (l : List UInt8) (s : ByteArray) (hs : s.toList = l) => rat_any ts n cap k (some ⟨b, o, none⟩) s l wr hs HN.out hn2 hTI
      have hat : ∀ l, atP ts k l = isP t l := fun l => atP_some ht l
      simp only [hat] at CAT
      have CAM := fun (s : ByteArray) (x : Nat) => rAmong_any ps s pn pc pa (wr.drewN x) HPN.out hpn2 (HPI.out _ (below_drewN hbx x))
      have CP1 := CAT [35, 35] ⟨#[35, 35]⟩ (Lib.toList_data _)
      have CP2 := CAT [37, 58, 37, 58] ⟨#[37, 58, 37, 58]⟩ (Lib.toList_data _)
      have HEM := Lib.hid (drop_empty HN.out hlt)
      have hst := HK.out
      rw [mayR_drop ht] at hst
      have HK2 := Lib.hid hst
      have j1 : (k : Int) < (n : Int) := by omega
      have j0 : (0 : Int) ≤ (k : Int) := by omega
      clear ht hst HK hat hr hTI
      cases hp1 : isP t [35, 35] with
      | true =>
        rw [hp1] at CP1
        have hk1 : (t.k == 1) = false := isP_kind hp1
        have hh1 : isP t [35] = false := isP_other (by decide) hp1
        have hh2 : isP t [37, 58] = false := isP_other (by decide) hp1
        have hpb : pasteB t = true := by unfold pasteB; rw [hp1]; rfl
        by_cases hk0 : k = 0
        · have q1 : ((k : Int) == 0) = true := beq_iff_eq.2 (by omega)
          have hk0b : (k == 0) = true := beq_iff_eq.2 hk0
          clear hk0
          have HR3 : Hid (R = false) := Lib.hid (by rw [HK2.out]; rw [hpb, hk0b]; simp)
          clear HK2
          go_wp2_with fail
          refine CP1.mono ?_
          rintro e _ ⟨rfl, rfl⟩
          go_wp2
          go_ret
          exact ⟨rb (by rw [HR3.out]), hb0.trans (hbx.mono hb0.size)⟩

        · have q1 : ((k : Int) == 0) = false := beq_eq_false_iff_ne.2 (by omega)
          have hk0b : (k == 0) = false := beq_eq_false_iff_ne.2 hk0
          clear hk0
          by_cases hkn : k + 1 = n
          · have q2 : ((k : Int) + 1 == (n : Int)) = true := beq_iff_eq.2 (by omega)
            have HR3 : Hid (R = false) := Lib.hid (by rw [HK2.out]; rw [hpb, HEM.out, decide_eq_true hkn]; simp)
            clear HK2 hkn
            go_wp2_with fail
            refine CP1.mono ?_
            rintro e _ ⟨rfl, rfl⟩
            go_wp2
            go_ret
            exact ⟨rb (by rw [HR3.out]), hb0.trans (hbx.mono hb0.size)⟩

          · have q2 : ((k : Int) + 1 == (n : Int)) = false := beq_eq_false_iff_ne.2 (by omega)
            cases fn with
            | false =>
              have HN3 : Hid (R = mayR false vr ps (k + 1 == 0) (ts.drop (k + 1))) := Lib.hid (by rw [HK2.out]; unfold oneT isW hashP; rw [HEM.out, hk0b, decide_eq_false hkn, hk1, hh1, hh2]; simp)
              clear HK2
              go_wp2_with fail
              refine CP1.mono ?_
              rintro e _ ⟨rfl, rfl⟩
              go_wp2
              refine ⟨⟨k + 1, by omega, by go_num, HN3, hbx⟩, ?_⟩
              simp [intOf]; omega

            | true =>
              have HN3 : Hid (R = mayR true vr ps (k + 1 == 0) (ts.drop (k + 1))) := Lib.hid (by rw [HK2.out]; unfold oneT isW hashP; rw [HEM.out, hk0b, decide_eq_false hkn, hk1, hh1, hh2]; simp)
              have CH1 := CAT [35] ⟨#[35]⟩ (Lib.toList_data _)
              have CH2 := CAT [37, 58] ⟨#[37, 58]⟩ (Lib.toList_data _)
              rw [hh1] at CH1
              rw [hh2] at CH2
              clear HK2
              go_wp2_with fail
              refine CP1.mono ?_
              rintro e _ ⟨rfl, rfl⟩
              go_wp2_with fail
              refine CH1.mono ?_
              rintro e _ ⟨rfl, rfl⟩
              go_wp2_with fail
              refine CH2.mono ?_
              rintro e _ ⟨rfl, rfl⟩
              go_wp2
              refine ⟨⟨k + 1, by omega, by go_num, HN3, hbx⟩, ?_⟩
              simp [intOf]; omega



      | false =>
        rw [hp1] at CP1
        cases hp2 : isP t [37, 58, 37, 58] with
        | true =>
          rw [hp2] at CP2
          have hk1 : (t.k == 1) = false := isP_kind hp2
          have hh1 : isP t [35] = false := isP_other (by decide) hp2
          have hh2 : isP t [37, 58] = false := isP_other (by decide) hp2
          have hpb : pasteB t = true := by unfold pasteB; rw [hp1, hp2]; rfl
          by_cases hk0 : k = 0
          · have q1 : ((k : Int) == 0) = true := beq_iff_eq.2 (by omega)
            have hk0b : (k == 0) = true := beq_iff_eq.2 hk0
            clear hk0
            have HR3 : Hid (R = false) := Lib.hid (by rw [HK2.out]; rw [hpb, hk0b]; simp)
            clear HK2
            go_wp2_with fail
            refine CP1.mono ?_
            rintro e _ ⟨rfl, rfl⟩
            go_wp2_with fail
            refine CP2.mono ?_
            rintro e _ ⟨rfl, rfl⟩
            go_wp2
            go_ret
            exact ⟨rb (by rw [HR3.out]), hb0.trans (hbx.mono hb0.size)⟩

          · have q1 : ((k : Int) == 0) = false := beq_eq_false_iff_ne.2 (by omega)
            have hk0b : (k == 0) = false := beq_eq_false_iff_ne.2 hk0
            clear hk0
            by_cases hkn : k + 1 = n
            · have q2 : ((k : Int) + 1 == (n : Int)) = true := beq_iff_eq.2 (by omega)
              have HR3 : Hid (R = false) := Lib.hid (by rw [HK2.out]; rw [hpb, HEM.out, decide_eq_true hkn]; simp)
              clear HK2 hkn
              go_wp2_with fail
              refine CP1.mono ?_
              rintro e _ ⟨rfl, rfl⟩
              go_wp2_with fail
              refine CP2.mono ?_
              rintro e _ ⟨rfl, rfl⟩
              go_wp2
              go_ret
              exact ⟨rb (by rw [HR3.out]), hb0.trans (hbx.mono hb0.size)⟩

            · have q2 : ((k : Int) + 1 == (n : Int)) = false := beq_eq_false_iff_ne.2 (by omega)
              cases fn with
              | false =>
                have HN3 : Hid (R = mayR false vr ps (k + 1 == 0) (ts.drop (k + 1))) := Lib.hid (by rw [HK2.out]; unfold oneT isW hashP; rw [HEM.out, hk0b, decide_eq_false hkn, hk1, hh1, hh2]; simp)
                clear HK2
                go_wp2_with fail
                refine CP1.mono ?_
                rintro e _ ⟨rfl, rfl⟩
                go_wp2_with fail
                refine CP2.mono ?_
                rintro e _ ⟨rfl, rfl⟩
                go_wp2
                refine ⟨⟨k + 1, by omega, by go_num, HN3, hbx⟩, ?_⟩
                simp [intOf]; omega

              | true =>
                have HN3 : Hid (R = mayR true vr ps (k + 1 == 0) (ts.drop (k + 1))) := Lib.hid (by rw [HK2.out]; unfold oneT isW hashP; rw [HEM.out, hk0b, decide_eq_false hkn, hk1, hh1, hh2]; simp)
                have CH1 := CAT [35] ⟨#[35]⟩ (Lib.toList_data _)
                have CH2 := CAT [37, 58] ⟨#[37, 58]⟩ (Lib.toList_data _)
                rw [hh1] at CH1
                rw [hh2] at CH2
                clear HK2
                go_wp2_with fail
                refine CP1.mono ?_
                rintro e _ ⟨rfl, rfl⟩
                go_wp2_with fail
                refine CP2.mono ?_
                rintro e _ ⟨rfl, rfl⟩
                go_wp2_with fail
                refine CH1.mono ?_
                rintro e _ ⟨rfl, rfl⟩
                go_wp2_with fail
                refine CH2.mono ?_
                rintro e _ ⟨rfl, rfl⟩
                go_wp2
                refine ⟨⟨k + 1, by omega, by go_num, HN3, hbx⟩, ?_⟩
                simp [intOf]; omega



        | false =>
          rw [hp2] at CP2
          have hpb : pasteB t = false := by unfold pasteB; rw [hp1, hp2]; rfl
          cases hk1 : (t.k == 1) with
          | true =>
            have hp1f := hp1
            have hh1 : isP t [35] = false := isP_word hk1 _
            have hh2 : isP t [37, 58] = false := isP_word hk1 _
            cases hva : (t.tx.toList == [95, 95, 86, 65, 95, 65, 82, 71, 83, 95, 95]) with
            | true =>
              cases vr with
              | false =>
                have HR3 : Hid (R = false) := Lib.hid (by rw [HK2.out]; unfold oneT isW vaL; rw [hpb, hk1, hva]; simp)
                clear HK2
                go_wp2_with fail
                refine CP1.mono ?_
                rintro e _ ⟨rfl, rfl⟩
                go_wp2_with fail
                refine CP2.mono ?_
                rintro e _ ⟨rfl, rfl⟩
                go_wp2
                go_ret
                exact ⟨rb (by rw [HR3.out]), hb0.trans (hbx.mono hb0.size)⟩

              | true =>
                cases fn with
                | false =>
                  have HN3 : Hid (R = mayR false true ps (k + 1 == 0) (ts.drop (k + 1))) := Lib.hid (by rw [HK2.out]; unfold oneT hashP; rw [hpb, hh1, hh2]; simp)
                  clear HK2
                  go_wp2_with fail
                  refine CP1.mono ?_
                  rintro e _ ⟨rfl, rfl⟩
                  go_wp2_with fail
                  refine CP2.mono ?_
                  rintro e _ ⟨rfl, rfl⟩
                  go_wp2
                  refine ⟨⟨k + 1, by omega, by go_num, HN3, hbx⟩, ?_⟩
                  simp [intOf]; omega

                | true =>
                  have HN3 : Hid (R = mayR true true ps (k + 1 == 0) (ts.drop (k + 1))) := Lib.hid (by rw [HK2.out]; unfold oneT hashP; rw [hpb, hh1, hh2]; simp)
                  have CH1 := CAT [35] ⟨#[35]⟩ (Lib.toList_data _)
                  have CH2 := CAT [37, 58] ⟨#[37, 58]⟩ (Lib.toList_data _)
                  rw [hh1] at CH1
                  rw [hh2] at CH2
                  clear HK2
                  go_wp2_with fail
                  refine CP1.mono ?_
                  rintro e _ ⟨rfl, rfl⟩
                  go_wp2_with fail
                  refine CP2.mono ?_
                  rintro e _ ⟨rfl, rfl⟩
                  go_wp2_with fail
                  refine CH1.mono ?_
                  rintro e _ ⟨rfl, rfl⟩
                  go_wp2_with fail
                  refine CH2.mono ?_
                  rintro e _ ⟨rfl, rfl⟩
                  go_wp2
                  refine ⟨⟨k + 1, by omega, by go_num, HN3, hbx⟩, ?_⟩
                  simp [intOf]; omega


            | false =>
              cases fn with
              | false =>
                have HN3 : Hid (R = mayR false vr ps (k + 1 == 0) (ts.drop (k + 1))) := Lib.hid (by rw [HK2.out]; unfold oneT isW hashP vaL; rw [hpb, hh1, hh2, hk1, hva]; simp)
                clear HK2
                go_wp2_with fail
                refine CP1.mono ?_
                rintro e _ ⟨rfl, rfl⟩
                go_wp2_with fail
                refine CP2.mono ?_
                rintro e _ ⟨rfl, rfl⟩
                go_wp2
                refine ⟨⟨k + 1, by omega, by go_num, HN3, hbx⟩, ?_⟩
                simp [intOf]; omega

              | true =>
                have HN3 : Hid (R = mayR true vr ps (k + 1 == 0) (ts.drop (k + 1))) := Lib.hid (by rw [HK2.out]; unfold oneT isW hashP vaL; rw [hpb, hh1, hh2, hk1, hva]; simp)
                have CH1 := CAT [35] ⟨#[35]⟩ (Lib.toList_data _)
                have CH2 := CAT [37, 58] ⟨#[37, 58]⟩ (Lib.toList_data _)
                rw [hh1] at CH1
                rw [hh2] at CH2
                clear HK2
                go_wp2_with fail
                refine CP1.mono ?_
                rintro e _ ⟨rfl, rfl⟩
                go_wp2_with fail
                refine CP2.mono ?_
                rintro e _ ⟨rfl, rfl⟩
                go_wp2_with fail
                refine CH1.mono ?_
                rintro e _ ⟨rfl, rfl⟩
                go_wp2_with fail
                refine CH2.mono ?_
                rintro e _ ⟨rfl, rfl⟩
                go_wp2
                refine ⟨⟨k + 1, by omega, by go_num, HN3, hbx⟩, ?_⟩
                simp [intOf]; omega



          | false =>
            cases hh1 : isP t [35] with
            | true =>
              cases fn with
              | false =>
                have HN3 : Hid (R = mayR false vr ps (k + 1 == 0) (ts.drop (k + 1))) := Lib.hid (by rw [HK2.out]; unfold oneT isW; rw [hpb, hk1]; simp)
                clear HK2
                go_wp2_with fail
                refine CP1.mono ?_
                rintro e _ ⟨rfl, rfl⟩
                go_wp2_with fail
                refine CP2.mono ?_
                rintro e _ ⟨rfl, rfl⟩
                go_wp2
                refine ⟨⟨k + 1, by omega, by go_num, HN3, hbx⟩, ?_⟩
                simp [intOf]; omega

              | true =>
                have CH1 := CAT [35] ⟨#[35]⟩ (Lib.toList_data _)
                have CH2 := CAT [37, 58] ⟨#[37, 58]⟩ (Lib.toList_data _)
                rw [hh1] at CH1
                have hhb : hashP t = true := by unfold hashP; rw [hh1]; rfl

                by_cases hkn : k + 1 = n
                · have q2 : ((k : Int) + 1 == (n : Int)) = true := beq_iff_eq.2 (by omega)
                  have hag : argB ps (ts.drop (k + 1)) = false := by rw [List.drop_eq_nil_of_le (by rw [HN.out]; omega)]; rfl
                  have HR3 : Hid (R = false) := Lib.hid (by rw [HK2.out]; unfold oneT isW; rw [hpb, hk1, hhb, hag]; simp)
                  clear HK2
                  go_wp2_with fail
                  refine CP1.mono ?_
                  rintro e _ ⟨rfl, rfl⟩
                  go_wp2_with fail
                  refine CP2.mono ?_
                  rintro e _ ⟨rfl, rfl⟩
                  go_wp2_with fail
                  refine CH1.mono ?_
                  rintro e _ ⟨rfl, rfl⟩
                  go_wp2
                  go_big_quiet (fail)
                  go_wp2
                  go_ret
                  exact ⟨rb (by rw [HR3.out]), hb0.trans ((below_drewN hbx _).mono hb0.size)⟩

                · have q2 : ((k : Int) + 1 == (n : Int)) = false := beq_eq_false_iff_ne.2 (by omega)
                  obtain ⟨u, hu⟩ : ∃ u, ts[k + 1]? = some u := ⟨_, List.getElem?_eq_getElem (by rw [HN.out]; omega)⟩
                  obtain ⟨y0, y1, -, -, -⟩ := HTZ.out wr hbx (k + 1) u hu
                  have hag : argB ps (ts.drop (k + 1)) = (u.k == 1 && (amongS ps u.tx || u.tx.toList == vaL)) := by
                    rw [List.drop_eq_getElem_cons (List.getElem?_eq_some_iff.1 hu).1, (List.getElem?_eq_some_iff.1 hu).2]; rfl
                  have q3 : ((k : Int) + 1).toNat = k + 1 := by omega
                  have q4 : (0 : Int) ≤ (k : Int) + 1 := by omega
                  have q5 : (k : Int) + 1 < (n : Int) := by omega
                  clear hu
                  cases hu1 : (u.k == 1) with
                  | false =>
                    have hun : (!(u.k == 1)) = true := by rw [hu1]; rfl
                    have hun2 : (u.k != 1) = true := by unfold bne; rw [hu1]; rfl
                    have HR3 : Hid (R = false) := Lib.hid (by rw [HK2.out]; unfold oneT isW; rw [hpb, hk1, hhb, hag, hu1]; simp)
                    clear HK2
                    go_wp2_with fail
                    refine CP1.mono ?_
                    rintro e _ ⟨rfl, rfl⟩
                    go_wp2_with fail
                    refine CP2.mono ?_
                    rintro e _ ⟨rfl, rfl⟩
                    go_wp2_with fail
                    refine CH1.mono ?_
                    rintro e _ ⟨rfl, rfl⟩
                    go_wp2
                    go_big_quiet (fail)
                    go_wp2
                    go_ret
                    exact ⟨rb (by rw [HR3.out]), hb0.trans ((below_drewN hbx _).mono hb0.size)⟩

                  | true =>
                    have hun : (!(u.k == 1)) = false := by rw [hu1]; rfl
                    have hun2 : (u.k != 1) = false := by unfold bne; rw [hu1]; rfl
                    have CA := fun x => CAM u.tx x
                    cases ham : amongS ps u.tx with
                    | true =>
                      simp only [ham] at CA
                      have HN3 : Hid (R = mayR true vr ps (k + 1 == 0) (ts.drop (k + 1))) := Lib.hid (by rw [HK2.out]; unfold oneT isW; rw [hpb, hk1, hhb, hag, hu1, ham]; simp)
                      clear HK2
                      go_wp2_with fail
                      refine CP1.mono ?_
                      rintro e _ ⟨rfl, rfl⟩
                      go_wp2_with fail
                      refine CP2.mono ?_
                      rintro e _ ⟨rfl, rfl⟩
                      go_wp2_with fail
                      refine CH1.mono ?_
                      rintro e _ ⟨rfl, rfl⟩
                      go_wp2
                      go_big_quiet ((go_at_call 42; exact quiet_at (CA _)))
                      go_wp2
                      refine ⟨⟨k + 1, by omega, by go_num, HN3, (below_drewN hbx _)⟩, ?_⟩
                      simp [intOf]; omega

                    | false =>
                      simp only [ham] at CA
                      cases huv : (u.tx.toList == [95, 95, 86, 65, 95, 65, 82, 71, 83, 95, 95]) with
                      | true =>
                        have huv2 : (!(u.tx.toList == [95, 95, 86, 65, 95, 65, 82, 71, 83, 95, 95])) = false := by rw [huv]; rfl
                        have huv3 : (u.tx.toList != [95, 95, 86, 65, 95, 65, 82, 71, 83, 95, 95]) = false := by unfold bne; rw [huv]; rfl
                        have HN3 : Hid (R = mayR true vr ps (k + 1 == 0) (ts.drop (k + 1))) := Lib.hid (by rw [HK2.out]; unfold oneT isW; rw [hpb, hk1, hhb, hag, hu1, ham]; unfold vaL; rw [huv]; simp)
                        clear HK2
                        go_wp2_with fail
                        refine CP1.mono ?_
                        rintro e _ ⟨rfl, rfl⟩
                        go_wp2_with fail
                        refine CP2.mono ?_
                        rintro e _ ⟨rfl, rfl⟩
                        go_wp2_with fail
                        refine CH1.mono ?_
                        rintro e _ ⟨rfl, rfl⟩
                        go_wp2
                        go_big_quiet ((go_at_call 42; exact quiet_at (CA _)))
                        go_wp2
                        refine ⟨⟨k + 1, by omega, by go_num, HN3, (below_drewN hbx _)⟩, ?_⟩
                        simp [intOf]; omega

                      | false =>
                        have huv2 : (!(u.tx.toList == [95, 95, 86, 65, 95, 65, 82, 71, 83, 95, 95])) = true := by rw [huv]; rfl
                        have huv3 : (u.tx.toList != [95, 95, 86, 65, 95, 65, 82, 71, 83, 95, 95]) = true := by unfold bne; rw [huv]; rfl
                        have HR3 : Hid (R = false) := Lib.hid (by rw [HK2.out]; unfold oneT isW; rw [hpb, hk1, hhb, hag, hu1, ham]; unfold vaL; rw [huv]; simp)
                        clear HK2
                        go_wp2_with fail
                        refine CP1.mono ?_
                        rintro e _ ⟨rfl, rfl⟩
                        go_wp2_with fail
                        refine CP2.mono ?_
                        rintro e _ ⟨rfl, rfl⟩
                        go_wp2_with fail
                        refine CH1.mono ?_
                        rintro e _ ⟨rfl, rfl⟩
                        go_wp2
                        go_big_quiet ((go_at_call 42; exact quiet_at (CA _)))
                        go_wp2
                        go_ret
                        exact ⟨rb (by rw [HR3.out]), hb0.trans ((below_drewN hbx _).mono hb0.size)⟩


            | false =>
              cases hh2 : isP t [37, 58] with
              | true =>
                cases fn with
                | false =>
                  have HN3 : Hid (R = mayR false vr ps (k + 1 == 0) (ts.drop (k + 1))) := Lib.hid (by rw [HK2.out]; unfold oneT isW; rw [hpb, hk1]; simp)
                  clear HK2
                  go_wp2_with fail
                  refine CP1.mono ?_
                  rintro e _ ⟨rfl, rfl⟩
                  go_wp2_with fail
                  refine CP2.mono ?_
                  rintro e _ ⟨rfl, rfl⟩
                  go_wp2
                  refine ⟨⟨k + 1, by omega, by go_num, HN3, hbx⟩, ?_⟩
                  simp [intOf]; omega

                | true =>
                  have CH1 := CAT [35] ⟨#[35]⟩ (Lib.toList_data _)
                  have CH2 := CAT [37, 58] ⟨#[37, 58]⟩ (Lib.toList_data _)
                  rw [hh1] at CH1
                  rw [hh2] at CH2
                  have hhb : hashP t = true := by unfold hashP; rw [hh1, hh2]; rfl

                  by_cases hkn : k + 1 = n
                  · have q2 : ((k : Int) + 1 == (n : Int)) = true := beq_iff_eq.2 (by omega)
                    have hag : argB ps (ts.drop (k + 1)) = false := by rw [List.drop_eq_nil_of_le (by rw [HN.out]; omega)]; rfl
                    have HR3 : Hid (R = false) := Lib.hid (by rw [HK2.out]; unfold oneT isW; rw [hpb, hk1, hhb, hag]; simp)
                    clear HK2
                    go_wp2_with fail
                    refine CP1.mono ?_
                    rintro e _ ⟨rfl, rfl⟩
                    go_wp2_with fail
                    refine CP2.mono ?_
                    rintro e _ ⟨rfl, rfl⟩
                    go_wp2_with fail
                    refine CH1.mono ?_
                    rintro e _ ⟨rfl, rfl⟩
                    go_wp2_with fail
                    refine CH2.mono ?_
                    rintro e _ ⟨rfl, rfl⟩
                    go_wp2
                    go_big_quiet (fail)
                    go_wp2
                    go_ret
                    exact ⟨rb (by rw [HR3.out]), hb0.trans ((below_drewN hbx _).mono hb0.size)⟩

                  · have q2 : ((k : Int) + 1 == (n : Int)) = false := beq_eq_false_iff_ne.2 (by omega)
                    obtain ⟨u, hu⟩ : ∃ u, ts[k + 1]? = some u := ⟨_, List.getElem?_eq_getElem (by rw [HN.out]; omega)⟩
                    obtain ⟨y0, y1, -, -, -⟩ := HTZ.out wr hbx (k + 1) u hu
                    have hag : argB ps (ts.drop (k + 1)) = (u.k == 1 && (amongS ps u.tx || u.tx.toList == vaL)) := by
                      rw [List.drop_eq_getElem_cons (List.getElem?_eq_some_iff.1 hu).1, (List.getElem?_eq_some_iff.1 hu).2]; rfl
                    have q3 : ((k : Int) + 1).toNat = k + 1 := by omega
                    have q4 : (0 : Int) ≤ (k : Int) + 1 := by omega
                    have q5 : (k : Int) + 1 < (n : Int) := by omega
                    clear hu
                    cases hu1 : (u.k == 1) with
                    | false =>
                      have hun : (!(u.k == 1)) = true := by rw [hu1]; rfl
                      have hun2 : (u.k != 1) = true := by unfold bne; rw [hu1]; rfl
                      have HR3 : Hid (R = false) := Lib.hid (by rw [HK2.out]; unfold oneT isW; rw [hpb, hk1, hhb, hag, hu1]; simp)
                      clear HK2
                      go_wp2_with fail
                      refine CP1.mono ?_
                      rintro e _ ⟨rfl, rfl⟩
                      go_wp2_with fail
                      refine CP2.mono ?_
                      rintro e _ ⟨rfl, rfl⟩
                      go_wp2_with fail
                      refine CH1.mono ?_
                      rintro e _ ⟨rfl, rfl⟩
                      go_wp2_with fail
                      refine CH2.mono ?_
                      rintro e _ ⟨rfl, rfl⟩
                      go_wp2
                      go_big_quiet (fail)
                      go_wp2
                      go_ret
                      exact ⟨rb (by rw [HR3.out]), hb0.trans ((below_drewN hbx _).mono hb0.size)⟩

                    | true =>
                      have hun : (!(u.k == 1)) = false := by rw [hu1]; rfl
                      have hun2 : (u.k != 1) = false := by unfold bne; rw [hu1]; rfl
                      have CA := fun x => CAM u.tx x
                      cases ham : amongS ps u.tx with
                      | true =>
                        simp only [ham] at CA
                        have HN3 : Hid (R = mayR true vr ps (k + 1 == 0) (ts.drop (k + 1))) := Lib.hid (by rw [HK2.out]; unfold oneT isW; rw [hpb, hk1, hhb, hag, hu1, ham]; simp)
                        clear HK2
                        go_wp2_with fail
                        refine CP1.mono ?_
                        rintro e _ ⟨rfl, rfl⟩
                        go_wp2_with fail
                        refine CP2.mono ?_
                        rintro e _ ⟨rfl, rfl⟩
                        go_wp2_with fail
                        refine CH1.mono ?_
                        rintro e _ ⟨rfl, rfl⟩
                        go_wp2_with fail
                        refine CH2.mono ?_
                        rintro e _ ⟨rfl, rfl⟩
                        go_wp2
                        go_big_quiet ((go_at_call 42; exact quiet_at (CA _)))
                        go_wp2
                        refine ⟨⟨k + 1, by omega, by go_num, HN3, (below_drewN hbx _)⟩, ?_⟩
                        simp [intOf]; omega

                      | false =>
                        simp only [ham] at CA
                        cases huv : (u.tx.toList == [95, 95, 86, 65, 95, 65, 82, 71, 83, 95, 95]) with
                        | true =>
                          have huv2 : (!(u.tx.toList == [95, 95, 86, 65, 95, 65, 82, 71, 83, 95, 95])) = false := by rw [huv]; rfl
                          have huv3 : (u.tx.toList != [95, 95, 86, 65, 95, 65, 82, 71, 83, 95, 95]) = false := by unfold bne; rw [huv]; rfl
                          have HN3 : Hid (R = mayR true vr ps (k + 1 == 0) (ts.drop (k + 1))) := Lib.hid (by rw [HK2.out]; unfold oneT isW; rw [hpb, hk1, hhb, hag, hu1, ham]; unfold vaL; rw [huv]; simp)
                          clear HK2
                          go_wp2_with fail
                          refine CP1.mono ?_
                          rintro e _ ⟨rfl, rfl⟩
                          go_wp2_with fail
                          refine CP2.mono ?_
                          rintro e _ ⟨rfl, rfl⟩
                          go_wp2_with fail
                          refine CH1.mono ?_
                          rintro e _ ⟨rfl, rfl⟩
                          go_wp2_with fail
                          refine CH2.mono ?_
                          rintro e _ ⟨rfl, rfl⟩
                          go_wp2
                          go_big_quiet ((go_at_call 42; exact quiet_at (CA _)))
                          go_wp2
                          refine ⟨⟨k + 1, by omega, by go_num, HN3, (below_drewN hbx _)⟩, ?_⟩
                          simp [intOf]; omega

                        | false =>
                          have huv2 : (!(u.tx.toList == [95, 95, 86, 65, 95, 65, 82, 71, 83, 95, 95])) = true := by rw [huv]; rfl
                          have huv3 : (u.tx.toList != [95, 95, 86, 65, 95, 65, 82, 71, 83, 95, 95]) = true := by unfold bne; rw [huv]; rfl
                          have HR3 : Hid (R = false) := Lib.hid (by rw [HK2.out]; unfold oneT isW; rw [hpb, hk1, hhb, hag, hu1, ham]; unfold vaL; rw [huv]; simp)
                          clear HK2
                          go_wp2_with fail
                          refine CP1.mono ?_
                          rintro e _ ⟨rfl, rfl⟩
                          go_wp2_with fail
                          refine CP2.mono ?_
                          rintro e _ ⟨rfl, rfl⟩
                          go_wp2_with fail
                          refine CH1.mono ?_
                          rintro e _ ⟨rfl, rfl⟩
                          go_wp2_with fail
                          refine CH2.mono ?_
                          rintro e _ ⟨rfl, rfl⟩
                          go_wp2
                          go_big_quiet ((go_at_call 42; exact quiet_at (CA _)))
                          go_wp2
                          go_ret
                          exact ⟨rb (by rw [HR3.out]), hb0.trans ((below_drewN hbx _).mono hb0.size)⟩


              | false =>
                cases fn with
                | false =>
                  have HN3 : Hid (R = mayR false vr ps (k + 1 == 0) (ts.drop (k + 1))) := Lib.hid (by rw [HK2.out]; unfold oneT isW hashP; rw [hpb, hh1, hh2, hk1]; simp)
                  clear HK2
                  go_wp2_with fail
                  refine CP1.mono ?_
                  rintro e _ ⟨rfl, rfl⟩
                  go_wp2_with fail
                  refine CP2.mono ?_
                  rintro e _ ⟨rfl, rfl⟩
                  go_wp2
                  refine ⟨⟨k + 1, by omega, by go_num, HN3, hbx⟩, ?_⟩
                  simp [intOf]; omega

                | true =>
                  have HN3 : Hid (R = mayR true vr ps (k + 1 == 0) (ts.drop (k + 1))) := Lib.hid (by rw [HK2.out]; unfold oneT isW hashP; rw [hpb, hh1, hh2, hk1]; simp)
                  have CH1 := CAT [35] ⟨#[35]⟩ (Lib.toList_data _)
                  have CH2 := CAT [37, 58] ⟨#[37, 58]⟩ (Lib.toList_data _)
                  rw [hh1] at CH1
                  rw [hh2] at CH2
                  clear HK2
                  go_wp2_with fail
                  refine CP1.mono ?_
                  rintro e _ ⟨rfl, rfl⟩
                  go_wp2_with fail
                  refine CP2.mono ?_
                  rintro e _ ⟨rfl, rfl⟩
                  go_wp2_with fail
                  refine CH1.mono ?_
                  rintro e _ ⟨rfl, rfl⟩
                  go_wp2_with fail
                  refine CH2.mono ?_
                  rintro e _ ⟨rfl, rfl⟩
                  go_wp2
                  refine ⟨⟨k + 1, by omega, by go_num, HN3, hbx⟩, ?_⟩
                  simp [intOf]; omega




    · have HR3 : Hid (R = true) := Lib.hid (by rw [HK.out, List.drop_eq_nil_of_le (by rw [HN.out]; omega)]; rfl)
      have j1 : ¬ (k : Int) < (n : Int) := by omega
      clear HK
      go_wp2
      go_ret
      exact ⟨rb (by rw [HR3.out]), hb0.trans (hbx.mono hb0.size)⟩

end Go.Proofs.YtaodjipnffgihaaGreat
