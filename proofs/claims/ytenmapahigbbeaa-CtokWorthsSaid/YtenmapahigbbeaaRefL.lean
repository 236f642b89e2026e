/- The document's answer: literals, punctuators, kinds. -/
import Derived.Test.YtenmapahigbbeaaRefW
import Derived.BigQuiet
import Derived.Deep.QuietTactic
import Derived.Outline
import Derived.IntWalk
namespace Go.Proofs.Ytenmapahigbbeaa
open Go.RowKit

theorem quiet_add {P : Program} {f : FuncId} {args : Array Value} {w : World} {m x : Nat} {v : Value} (h : Calls P f args (w.drewN (m + x)) fun e w' => e = .returned v ∧ w' = w.drewN (m + x)) :
    Calls P f args (w.drewN (m + x)) fun e w'' => e = .returned v ∧ ∃ n, w'' = w.drewN (m + n) := h.mono fun _ _ ⟨he, hm⟩ => ⟨he, x, hm⟩
theorem lit_step {q : UInt8} {f : Nat} {x p : List UInt8} {ps : List (List UInt8)} {k : Nat} (h : ps[k]? = some p) : litB q f x (ps.drop k) = if shapeB q x p then decide (p.length + 2 + f ≤ x.length) else litB q f x (ps.drop (k + 1)) := by
  have hk : k < ps.length := (List.getElem?_eq_some_iff.1 h).1
  rw [List.drop_eq_getElem_cons hk, litB, (List.getElem?_eq_some_iff.1 h).2]

/-- The five tests of a literal's form, on texts. -/
structure Shp (q : UInt8) (s T : ByteArray) (c1 c2 c3 c4 c5 : Bool) : Prop where
  h1 : decide (T.size + 2 ≤ s.size) = c1
  h2 : c1 = true → ((s.extract 0 T.size).toList == T.toList) = c2
  h3 : c1 = true → ∀ h : T.size < s.size, ((s[T.size].toNat : Int) == (q.toNat : Int)) = c3
  h4 : c1 = true → ∀ h : s.size - 1 < s.size, ((s[s.size - 1].toNat : Int) == (q.toNat : Int)) = c4
  h5 : c1 = true → piecesB q (s.extract (T.size + 1) (s.size - 1)).data.toList = c5
theorem shp_beq (a b : UInt8) : (a == b) = ((a.toNat : Int) == (b.toNat : Int)) := by
  rw [Bool.eq_iff_iff, beq_iff_eq, beq_iff_eq]; exact u8_int
theorem Shp.shape {q : UInt8} {s T : ByteArray} {c1 c2 c3 c4 c5 : Bool} (h : Shp q s T c1 c2 c3 c4 c5) : shapeB q s.data.toList T.data.toList = (c1 && c2 && c3 && c4 && c5) := by
  unfold shapeB
  rw [size_list, size_list, h.h1]
  cases hc : c1 with
  | false => rfl
  | true =>
    have h1 : T.size + 2 ≤ s.size := of_decide_eq_true (by rw [h.h1, hc])
    have e2 := h.h2 hc
    have e3 := h.h3 hc (by omega)
    have e4 := h.h4 hc (by omega)
    have e5 := h.h5 hc
    rw [ByteArray.toList_eq, ByteArray.toList_eq, extract_list, List.drop_zero] at e2
    rw [← shp_beq] at e3 e4
    rw [extract_list] at e5
    rw [e2, data_get s _ (by omega), data_get s _ (by omega), e5]
    simp only [Option.getD_some]
    rw [e3, e4]
theorem shp_any (q : UInt8) (s T : ByteArray) : ∃ c1 c2 c3 c4 c5, Shp q s T c1 c2 c3 c4 c5 := by
  by_cases h : T.size + 2 ≤ s.size
  · exact ⟨true, (s.extract 0 T.size).toList == T.toList, ((s[T.size].toNat : Int) == (q.toNat : Int)), ((s[s.size - 1].toNat : Int) == (q.toNat : Int)), piecesB q (s.extract (T.size + 1) (s.size - 1)).data.toList,
      ⟨decide_eq_true h, fun _ => rfl, fun _ _ => rfl, fun _ _ => rfl, fun _ => rfl⟩⟩
  · exact ⟨false, false, false, false, false, ⟨decide_eq_false h, (fun h => by cases h), (fun h => by cases h), (fun h => by cases h), (fun h => by cases h)⟩⟩

set_option maxRecDepth 100000 in
set_option maxHeartbeats 4000000 in
theorem rIsLiteral_any (s : ByteArray) (q : UInt8) (f : Nat) (ps : List ByteArray) (b n : Nat) (w : World) (hs : s.size ≤ maxLen) (hqf : q = 39 ∧ f = 1 ∨ q = 34 ∧ f = 0) (hn : ps.length = n) (hn2 : n ≤ 10)
    (hT : ∀ (j : Nat) T, ps[j]? = some T → w.cell? ⟨b, j, none⟩ = some (.string T)) (hp : ∀ T ∈ ps, T.size ≤ 2) :
    Calls Try.prog 79 #[.string s, .int .u8 q.toNat, .slice (some ⟨b, 0, none⟩) n n] w fun e w' => e = .returned (.bool (litB q f s.data.toList (ps.map (·.data.toList)))) ∧ ∃ m, w' = w.drewN m := by
  unfold maxLen at hs
  obtain ⟨psL, hpsL⟩ : ∃ l, ps.map (·.data.toList) = l := ⟨_, rfl⟩
  have HG := Lib.hid (fun (k : Nat) (T : ByteArray) (h : ps[k]? = some T) => show psL[k]? = some T.data.toList by rw [← hpsL, List.getElem?_map, h]; rfl)
  have HT := Lib.hid hT
  have HP := Lib.hid hp
  have HN := Lib.hid hn
  have HE0 := Lib.hid (show psL.length = n by rw [← hpsL, List.length_map, hn])
  rw [hpsL]
  clear hT hp hn hpsL
  go_enter Try.func79, Try.ntmps79
  go_wp2
  go_loopw [7] (fun i wx => ∃ k : Nat, k ≤ n ∧ i = .int .i64 k ∧ Hid (litB q f s.data.toList psL = litB q f s.data.toList (psL.drop k)) ∧ ∃ m, wx = w.drewN m) (fun i _ => n - (intOf i).toNat)
  case atStart => exact ⟨0, Nat.zero_le _, rfl, Lib.hid rfl, 0, rfl⟩
  case round =>
    obtain ⟨k, hk, rfl, HE, m, rfl⟩ := hrel
    by_cases hlt : k < n
    · obtain ⟨T, hTk⟩ : ∃ T, ps[k]? = some T := ⟨_, List.getElem?_eq_getElem (by rw [HN.out]; exact hlt)⟩
      have c0 := HT.out k T hTk
      have hsz := HP.out T (List.mem_of_getElem? hTk)
      obtain ⟨c1, c2, c3, c4, c5, hS⟩ := shp_any q s T
      have hst := HE.out.trans (lit_step (HG.out k T hTk))
      rw [hS.shape, size_list, size_list] at hst
      have HST := Lib.hid hst
      clear hst hTk HE
      have j2 : (k : Int) < (n : Int) := by omega
      have j3 : (0 : Int) ≤ (k : Int) := by omega
      have j4 : ((k : Int) : Int).toNat = k := Int.toNat_natCast k
      obtain ⟨h1, h2, h3, h4, h5⟩ := hS
      go_wp2
      cases c1 with
      | false =>
        have b0 : ¬ (T.size + 2 ≤ s.size) := of_decide_eq_false h1
        have b1 : decide ((T.size : Int) + 2 ≤ (s.size : Int)) = false := decide_eq_false (by omega)
        have HS2 := Lib.hid (HST.out.trans (if_neg (by simp)))
        clear h1 h2 h3 h4 h5 HST b0
        go_big_quiet (fail)
        go_wp2
        refine ⟨⟨k + 1, by omega, by go_num, HS2, _, rfl⟩, ?_⟩
        simp [intOf]; omega
      | true =>
        have b0 : T.size + 2 ≤ s.size := of_decide_eq_true h1
        have b1 : (T.size : Int) + 2 ≤ (s.size : Int) := by omega
        have b2 : (T.size : Int) ≤ (s.size : Int) := by omega
        have b3 : (T.size : Int) < (s.size : Int) := by omega
        have h2 := h2 rfl
        have h3 := h3 rfl (by omega)
        have h4 := h4 rfl (by omega)
        have h5 := h5 rfl
        have v1 : wrap64 ((s.size : Int) - 1) = (s.size : Int) - 1 := IntWalk.wrap64_in _ (by omega)
        have v2 : ((s.size : Int) - 1).toNat = s.size - 1 := by omega
        have v3 : ((T.size : Int) + 1).toNat = T.size + 1 := by omega
        have v4 : (0 : Int) ≤ (s.size : Int) - 1 := by omega
        have v9 : (1 : Int) ≤ (s.size : Int) := by omega
        have v5 : (s.size : Int) - 1 < (s.size : Int) := by omega
        have v6 : (T.size : Int) + 1 ≤ (s.size : Int) - 1 := by omega
        have v7 : (s.size : Int) - 1 ≤ (s.size : Int) := by omega
        have v8 : (0 : Int) ≤ (T.size : Int) + 1 := by omega
        clear h1
        cases c2 with
        | false =>
          have HS2 := Lib.hid (HST.out.trans (if_neg (by simp)))
          clear h3 h4 h5 HST v1 v2 v3 v4 v5 v6 v7 v8
          go_big_quiet (fail)
          go_wp2
          refine ⟨⟨k + 1, by omega, by go_num, HS2, _, rfl⟩, ?_⟩
          simp [intOf]; omega
        | true =>
          cases c3 with
          | false =>
            have HS2 := Lib.hid (HST.out.trans (if_neg (by simp)))
            clear h4 h5 HST v1 v2 v3 v4 v5 v6 v7 v8
            go_big_quiet (fail)
            go_wp2
            refine ⟨⟨k + 1, by omega, by go_num, HS2, _, rfl⟩, ?_⟩
            simp [intOf]; omega
          | true =>
            cases c4 with
            | false =>
              have HS2 := Lib.hid (HST.out.trans (if_neg (by simp)))
              clear h5 HST v3 v6 v7 v8
              go_big_quiet (fail)
              go_wp2
              refine ⟨⟨k + 1, by omega, by go_num, HS2, _, rfl⟩, ?_⟩
              simp [intOf]; omega
            | true =>
              have CQ : ∀ w : World, Calls Try.prog 89 #[.string (s.extract (T.size + 1) (s.size - 1)), .int .u8 q.toNat] w fun e w' => e = .returned (.bool c5) ∧ w' = w := fun w =>
                (rpieces_any (s.extract (T.size + 1) (s.size - 1)) q w (by rw [ByteArray.size_extract]; unfold maxLen; omega)).mono (by rintro e w' ⟨rfl, rfl⟩; rw [h5]; exact ⟨rfl, rfl⟩)
              cases c5 with
              | false =>
                have HS2 := Lib.hid (HST.out.trans (if_neg (by simp)))
                clear h5 HST
                go_big_quiet ((go_at_call 89; exact quiet_add (CQ _)))
                go_wp2
                refine ⟨⟨k + 1, by omega, by go_num, HS2, _, rfl⟩, ?_⟩
                simp [intOf]; omega
              | true =>
                have HS2 := Lib.hid (HST.out.trans (if_pos rfl))
                clear h5 HST
                rcases hqf with ⟨hq, rfl⟩ | ⟨hq, rfl⟩
                · have hq0 : ((q.toNat : Int) == 34) = false := by rw [hq]; rfl
                  clear hq
                  go_big_quiet ((go_at_call 89; exact quiet_add (CQ _)))
                  go_wp2
                  go_ret
                  exact ⟨rb (by rw [HS2.out, Bool.eq_iff_iff, decide_eq_true_iff, decide_eq_true_iff]; omega), _, rfl⟩
                · have hq0 : ((q.toNat : Int) == 34) = true := by rw [hq]; rfl
                  clear hq
                  go_big_quiet ((go_at_call 89; exact quiet_add (CQ _)))
                  go_wp2
                  go_ret
                  exact ⟨rb (by rw [HS2.out]; exact (decide_eq_true (by omega)).symm), _, rfl⟩
    · have HS2 := Lib.hid (HE.out.trans (show litB q f s.data.toList (psL.drop k) = false by rw [List.drop_eq_nil_of_le (by rw [HE0.out]; omega)]; rfl))
      go_wp2
      go_ret
      exact ⟨rb (by rw [HS2.out]), _, rfl⟩

end Go.Proofs.Ytenmapahigbbeaa
