/- Several texts laid together. -/
import Derived.Test.YtaodjipnffgihaaGreatMzD
import Derived.BigQuiet
import Derived.Deep.QuietTactic
import Derived.Outline
import Derived.IntWalk

namespace Go.Proofs.YtaodjipnffgihaaGreat
open Go.RowKit

theorem quiet_add {P : Program} {f : FuncId} {args : Array Value} {w : World} {m x : Nat} {v : Value} (h : Calls P f args (w.drewN (m + x)) fun e w' => e = .returned v ∧ w' = w.drewN (m + x)) :
    Calls P f args (w.drewN (m + x)) fun e w'' => e = .returned v ∧ ∃ n, w'' = w.drewN (m + n) := h.mono fun _ _ ⟨he, hm⟩ => ⟨he, x, hm⟩
theorem lit_step {q : UInt8} {f : Nat} {x p : List UInt8} {ps : List (List UInt8)} {k : Nat} (h : ps[k]? = some p) : litB q f x (ps.drop k) = if shapeB q x p then decide (p.length + 2 + f ≤ x.length) else litB q f x (ps.drop (k + 1)) := by
  have hk : k < ps.length := (List.getElem?_eq_some_iff.1 h).1
  rw [List.drop_eq_getElem_cons hk, litB, (List.getElem?_eq_some_iff.1 h).2]

/-- The five tests of a literal's form, on texts. -/
structure Shp (q : UInt8) (s T : ByteArray) (c1 c2 c3 c4 c5 : Bool) : Prop where
  h1 : decide (T.size + 2 ≤ s.size) = c1
  h2 : c1 = true → ((s.extract 0 T.size).toList == T.toList) = c2
  h3 : c1 = true → ∀ h : T.size < s.size, ((s[T.size].toNat : Int) == (q.toNat : Int)) = c3
  h4 : c1 = true → ∀ h : s.size - 1 < s.size, ((s[s.size - 1].toNat : Int) == (q.toNat : Int)) = c4
  h5 : c1 = true → piecesB q (s.extract (T.size + 1) (s.size - 1)).data.toList = c5
theorem shp_beq (a b : UInt8) : (a == b) = ((a.toNat : Int) == (b.toNat : Int)) := by
  rw [Bool.eq_iff_iff, beq_iff_eq, beq_iff_eq]; exact u8_int
theorem Shp.shape {q : UInt8} {s T : ByteArray} {c1 c2 c3 c4 c5 : Bool} (h : Shp q s T c1 c2 c3 c4 c5) : shapeB q s.data.toList T.data.toList = (c1 && c2 && c3 && c4 && c5) := by
  unfold shapeB
  rw [size_list, size_list, h.h1]
  cases hc : c1 with
  | false => rfl
  | true =>
    have h1 : T.size + 2 ≤ s.size := of_decide_eq_true (by rw [h.h1, hc])
    have e2 := h.h2 hc
    have e3 := h.h3 hc (by omega)
    have e4 := h.h4 hc (by omega)
    have e5 := h.h5 hc
    rw [ByteArray.toList_eq, ByteArray.toList_eq, extract_list, List.drop_zero] at e2
    rw [← shp_beq] at e3 e4
    rw [extract_list] at e5
    rw [e2, data_get s _ (by omega), data_get s _ (by omega), e5]
    simp only [Option.getD_some]
    rw [e3, e4]
theorem shp_any (q : UInt8) (s T : ByteArray) : ∃ c1 c2 c3 c4 c5, Shp q s T c1 c2 c3 c4 c5 := by
  by_cases h : T.size + 2 ≤ s.size
  · exact ⟨true, (s.extract 0 T.size).toList == T.toList, ((s[T.size].toNat : Int) == (q.toNat : Int)), ((s[s.size - 1].toNat : Int) == (q.toNat : Int)), piecesB q (s.extract (T.size + 1) (s.size - 1)).data.toList,
      ⟨decide_eq_true h, fun _ => rfl, fun _ _ => rfl, fun _ _ => rfl, fun _ => rfl⟩⟩
  · exact ⟨false, false, false, false, false, ⟨decide_eq_false h, (fun h => by cases h), (fun h => by cases h), (fun h => by cases h), (fun h => by cases h)⟩⟩

set_option maxRecDepth 100000 in
set_option maxHeartbeats 4000000 in
theorem rIsLiteral_any (s : ByteArray) (q : UInt8) (f : Nat) (ps : List ByteArray) (b n : Nat) (w : World) (hs : s.size ≤ maxLen) (hqf : q = 39 ∧ f = 1 ∨ q = 34 ∧ f = 0) (hn : ps.length = n) (hn2 : n ≤ 10)
    (hT : ∀ (j : Nat) T, ps[j]? = some T → w.cell? ⟨b, j, none⟩ = some (.string T)) (hp : ∀ T ∈ ps, T.size ≤ 2) :
    Calls Tryz.prog 103 #[.string s, .int .u8 q.toNat, .slice (some ⟨b, 0, none⟩) n n] w fun e w' => e = .returned (.bool (litB q f s.data.toList (ps.map (·.data.toList)))) ∧ ∃ m, w' = w.drewN m := by
  unfold maxLen at hs
  obtain ⟨psL, hpsL⟩ : ∃ l, ps.map (·.data.toList) = l := ⟨_, rfl⟩
  have HG := Lib.hid (fun (k : Nat) (T : ByteArray) (h : ps[k]? = some T) => show psL[k]? = some T.data.toList by rw [← hpsL, List.getElem?_map, h]; rfl)
  have HT := Lib.hid hT
  have HP := Lib.hid hp
  have HN := Lib.hid hn
  have HE0 := Lib.hid (show psL.length = n by rw [← hpsL, List.length_map, hn])
  rw [hpsL]
  clear hT hp hn hpsL
  go_enter Tryz.func103, Tryz.ntmps103
  go_wp2
  go_loopw [7] (fun i wx => ∃ k : Nat, k ≤ n ∧ i = .int .i64 k ∧ Hid (litB q f s.data.toList psL = litB q f s.data.toList (psL.drop k)) ∧ ∃ m, wx = w.drewN m) (fun i _ => n - (intOf i).toNat)
  case atStart => exact ⟨0, Nat.zero_le _, rfl, Lib.hid rfl, 0, rfl⟩
  case round =>
    obtain ⟨k, hk, rfl, HE, m, rfl⟩ := hrel
    by_cases hlt : k < n
    · obtain ⟨T, hTk⟩ : ∃ T, ps[k]? = some T := ⟨_, List.getElem?_eq_getElem (by rw [HN.out]; exact hlt)⟩
      have c0 := HT.out k T hTk
      have hsz := HP.out T (List.mem_of_getElem? hTk)
      obtain ⟨c1, c2, c3, c4, c5, hS⟩ := shp_any q s T
      have hst := HE.out.trans (lit_step (HG.out k T hTk))
      rw [hS.shape, size_list, size_list] at hst
      have HST := Lib.hid hst
      clear hst hTk HE
      have j2 : (k : Int) < (n : Int) := by omega
      have j3 : (0 : Int) ≤ (k : Int) := by omega
      have j4 : ((k : Int) : Int).toNat = k := Int.toNat_natCast k
      obtain ⟨h1, h2, h3, h4, h5⟩ := hS
      go_wp2
      cases c1 with
      | false =>
        have b0 : ¬ (T.size + 2 ≤ s.size) := of_decide_eq_false h1
        have b1 : decide ((T.size : Int) + 2 ≤ (s.size : Int)) = false := decide_eq_false (by omega)
        have HS2 := Lib.hid (HST.out.trans (if_neg (by simp)))
        clear h1 h2 h3 h4 h5 HST b0
        go_big_quiet (fail)
        go_wp2
        refine ⟨⟨k + 1, by omega, by go_num, HS2, _, rfl⟩, ?_⟩
        simp [intOf]; omega
      | true =>
        have b0 : T.size + 2 ≤ s.size := of_decide_eq_true h1
        have b1 : (T.size : Int) + 2 ≤ (s.size : Int) := by omega
        have b2 : (T.size : Int) ≤ (s.size : Int) := by omega
        have b3 : (T.size : Int) < (s.size : Int) := by omega
        have h2 := h2 rfl
        have h3 := h3 rfl (by omega)
        have h4 := h4 rfl (by omega)
        have h5 := h5 rfl
        have v1 : wrap64 ((s.size : Int) - 1) = (s.size : Int) - 1 := IntWalk.wrap64_in _ (by omega)
        have v2 : ((s.size : Int) - 1).toNat = s.size - 1 := by omega
        have v3 : ((T.size : Int) + 1).toNat = T.size + 1 := by omega
        have v4 : (0 : Int) ≤ (s.size : Int) - 1 := by omega
        have v9 : (1 : Int) ≤ (s.size : Int) := by omega
        have v5 : (s.size : Int) - 1 < (s.size : Int) := by omega
        have v6 : (T.size : Int) + 1 ≤ (s.size : Int) - 1 := by omega
        have v7 : (s.size : Int) - 1 ≤ (s.size : Int) := by omega
        have v8 : (0 : Int) ≤ (T.size : Int) + 1 := by omega
        clear h1
        cases c2 with
        | false =>
          have HS2 := Lib.hid (HST.out.trans (if_neg (by simp)))
          clear h3 h4 h5 HST v1 v2 v3 v4 v5 v6 v7 v8
          go_big_quiet (fail)
          go_wp2
          refine ⟨⟨k + 1, by omega, by go_num, HS2, _, rfl⟩, ?_⟩
          simp [intOf]; omega
        | true =>
          cases c3 with
          | false =>
            have HS2 := Lib.hid (HST.out.trans (if_neg (by simp)))
            clear h4 h5 HST v1 v2 v3 v4 v5 v6 v7 v8
            go_big_quiet (fail)
            go_wp2
            refine ⟨⟨k + 1, by omega, by go_num, HS2, _, rfl⟩, ?_⟩
            simp [intOf]; omega
          | true =>
            cases c4 with
            | false =>
              have HS2 := Lib.hid (HST.out.trans (if_neg (by simp)))
              clear h5 HST v3 v6 v7 v8
              go_big_quiet (fail)
              go_wp2
              refine ⟨⟨k + 1, by omega, by go_num, HS2, _, rfl⟩, ?_⟩
              simp [intOf]; omega
            | true =>
              have CQ : ∀ w : World, Calls Tryz.prog 114 #[.string (s.extract (T.size + 1) (s.size - 1)), .int .u8 q.toNat] w fun e w' => e = .returned (.bool c5) ∧ w' = w := fun w =>
                (rpieces_any (s.extract (T.size + 1) (s.size - 1)) q w (by rw [ByteArray.size_extract]; unfold maxLen; omega)).mono (by rintro e w' ⟨rfl, rfl⟩; rw [h5]; exact ⟨rfl, rfl⟩)
              cases c5 with
              | false =>
                have HS2 := Lib.hid (HST.out.trans (if_neg (by simp)))
                clear h5 HST
                go_big_quiet ((go_at_call 114; exact quiet_add (CQ _)))
                go_wp2
                refine ⟨⟨k + 1, by omega, by go_num, HS2, _, rfl⟩, ?_⟩
                simp [intOf]; omega
              | true =>
                have HS2 := Lib.hid (HST.out.trans (if_pos rfl))
                clear h5 HST
                rcases hqf with ⟨hq, rfl⟩ | ⟨hq, rfl⟩
                · have hq0 : ((q.toNat : Int) == 34) = false := by rw [hq]; rfl
                  clear hq
                  go_big_quiet ((go_at_call 114; exact quiet_add (CQ _)))
                  go_wp2
                  go_ret
                  exact ⟨rb (by rw [HS2.out, Bool.eq_iff_iff, decide_eq_true_iff, decide_eq_true_iff]; omega), _, rfl⟩
                · have hq0 : ((q.toNat : Int) == 34) = true := by rw [hq]; rfl
                  clear hq
                  go_big_quiet ((go_at_call 114; exact quiet_add (CQ _)))
                  go_wp2
                  go_ret
                  exact ⟨rb (by rw [HS2.out]; exact (decide_eq_true (by omega)).symm), _, rfl⟩
    · have HS2 := Lib.hid (HE.out.trans (show litB q f s.data.toList (psL.drop k) = false by rw [List.drop_eq_nil_of_le (by rw [HE0.out]; omega)]; rfl))
      go_wp2
      go_ret
      exact ⟨rb (by rw [HS2.out]), _, rfl⟩

end Go.Proofs.YtaodjipnffgihaaGreat

namespace Go.Proofs.YtaodjipnffgihaaGreat
open Go.RowKit

/-! ### Punctuators -/
def allL : List UInt8 := [32, 91, 32, 93, 32, 40, 32, 41, 32, 123, 32, 125, 32, 46, 32, 45, 62, 32, 43, 43, 32, 45, 45, 32, 38, 32, 42, 32, 43, 32, 45, 32, 126, 32, 33, 32, 47, 32, 37, 32, 60, 60, 32, 62, 62, 32, 60, 32, 62, 32, 60, 61, 32, 62, 61, 32, 61, 61, 32, 33, 61, 32, 94, 32, 124, 32, 38, 38, 32, 124, 124, 32, 63, 32, 58, 32, 59, 32, 46, 46, 46, 32, 61, 32, 42, 61, 32, 47, 61, 32, 37, 61, 32, 43, 61, 32, 45, 61, 32, 60, 60, 61, 32, 62, 62, 61, 32, 38, 61, 32, 94, 61, 32, 124, 61, 32, 44, 32, 35, 32, 35, 35, 32, 60, 58, 32, 58, 62, 32, 60, 37, 32, 37, 62, 32, 37, 58, 32, 37, 58, 37, 58, 32]
def wOf (x : List UInt8) : List UInt8 := 32 :: (x ++ [32])
theorem all_has : ∀ x ∈ puncts, ∃ i, i + (wOf x).length ≤ 143 ∧ (allL.drop i).take (wOf x).length = wOf x := by
  have : ∀ x ∈ puncts, ((List.range 143).any fun i => decide (i + (wOf x).length ≤ 143) && (allL.drop i).take (wOf x).length == wOf x) = true := by decide +kernel
  intro x hx
  obtain ⟨i, _, h⟩ := List.any_eq_true.1 (this x hx)
  rw [Bool.and_eq_true, decide_eq_true_eq, beq_iff_eq] at h
  exact ⟨i, h⟩
theorem all_only : ∀ i < 143, ∀ n < 5, ∀ x, x = (allL.drop (i + 1)).take n → (allL.drop i).take (n + 2) = wOf x → x.contains 32 = false → x ≠ [] → isPunctB x = true := by
  have : ∀ i < 143, ∀ n < 5, (allL.drop i).take (n + 2) = wOf ((allL.drop (i + 1)).take n) → ((allL.drop (i + 1)).take n).contains 32 = false → (allL.drop (i + 1)).take n ≠ [] → isPunctB ((allL.drop (i + 1)).take n) = true := by decide +kernel
  intro i hi n hn x hx
  subst hx
  exact this i hi n hn

theorem wOf_len (x : List UInt8) : (wOf x).length = x.length + 2 := by simp [wOf]
/-- The text between two blanks. -/
def wB (s : ByteArray) : ByteArray := (⟨#[32]⟩ : ByteArray) ++ s ++ (⟨#[32]⟩ : ByteArray)
theorem wB_list (s : ByteArray) : (wB s).data.toList = wOf s.data.toList := by
  unfold wB wOf; simp
theorem wB_size (s : ByteArray) : (wB s).size = s.size + 2 := by
  rw [← size_list, wB_list, wOf_len, size_list]
theorem ex_list (a : ByteArray) (i j : Nat) : (a.extract i j).data.toList = (a.data.toList.drop i).take (j - i) := by
  rw [extract_list, List.take_drop]
  by_cases h : i ≤ j
  · rw [show i + (j - i) = j by omega]
  · rw [show i + (j - i) = i by omega, List.drop_eq_nil_of_le (by rw [List.length_take]; omega), List.drop_eq_nil_of_le (by rw [List.length_take]; omega)]
theorem has32_step {s : ByteArray} {k : Nat} (h : k < s.size) : (s.data.toList.drop k).contains 32 = ((s[k] == 32) || (s.data.toList.drop (k + 1)).contains 32) := by
  rw [data_drop s k h, List.contains_cons]
  have : (32 == s[k]) = (s[k] == 32) := by rw [Bool.eq_iff_iff, beq_iff_eq, beq_iff_eq]; exact eq_comm
  rw [this]

set_option maxRecDepth 100000 in
set_option maxHeartbeats 4000000 in
theorem rIsPunct_any (s : ByteArray) (w : World) (hs : s.size ≤ 65536) :
    Calls Tryz.prog 104 #[.string s] w fun e w' => e = .returned (.bool (isPunctB s.data.toList)) ∧ w' = w := by
  obtain ⟨W, hW⟩ : ∃ W, wB s = W := ⟨_, rfl⟩
  have hWs : W.size = s.size + 2 := by rw [← hW, wB_size]
  by_cases h0 : s.size = 0
  · have HN : Hid (isPunctB s.data.toList = false) := Lib.hid (by rw [List.length_eq_zero_iff.1 ((size_list s).trans h0)]; rfl)
    have b0 : ((s.size : Int) == 0) = true := by simp [h0]
    clear h0 hW hWs
    go_enter Tryz.func104, Tryz.ntmps104
    go_wp2
    go_ret
    exact ⟨rb (by rw [HN.out]), rfl⟩
  · have b0 : ((s.size : Int) == 0) = false := beq_eq_false_iff_ne.2 (by omega)
    by_cases h4 : 4 < s.size
    · have HN : Hid (isPunctB s.data.toList = false) := Lib.hid (by
        cases hp : isPunctB s.data.toList with
        | false => rfl
        | true =>
          have := (isPunct_len hp).2
          rw [size_list] at this; omega)
      have b1 : (4 : Int) < (s.size : Int) := by omega
      clear h0 hW hWs h4
      go_enter Tryz.func104, Tryz.ntmps104
      go_wp2
      go_ret
      exact ⟨rb (by rw [HN.out]), rfl⟩
    · have b1 : ¬ (4 : Int) < (s.size : Int) := by omega
      have HW := Lib.hid hW
      unfold wB at hW
      go_enter Tryz.func104, Tryz.ntmps104
      go_wp2
      go_loop [4] (fun i => ∃ k : Nat, k ≤ s.size ∧ i = .int .i64 k ∧ s.data.toList.contains 32 = (s.data.toList.drop k).contains 32) (fun i => s.size - (intOf i).toNat)
      case atStart => exact ⟨0, Nat.zero_le _, rfl, rfl⟩
      case round =>
        obtain ⟨k, hk, rfl, he⟩ := hrel
        have HE := Lib.hid he; clear he
        by_cases hlt : k < s.size
        · by_cases h32 : s[k] = 32
          · have HN : Hid (isPunctB s.data.toList = false) := Lib.hid (by
              cases hp : isPunctB s.data.toList with
              | false => rfl
              | true =>
                have h5 := HE.out
                rw [has32_step hlt, h32] at h5
                have h6 : s.data.toList.contains 32 = true := by rw [h5]; rfl
                exact absurd rfl (puncts_stop _ (List.contains_iff_mem.1 hp) 32 (List.contains_iff_mem.1 h6)).1)
            have b2 : ((s[k].toNat : Int) == 32) = true := by rw [h32]; rfl
            clear h32 HE hW
            go_wp2
            go_ret
            exact ⟨rb (by rw [HN.out]), rfl⟩
          · have HN := Lib.hid (HE.out.trans (by rw [has32_step hlt, show (s[k] == 32) = false by simpa using h32, Bool.false_or]))
            have b2 : ((s[k].toNat : Int) == 32) = false := beq_eq_false_iff_ne.2 (fun h => h32 (u8_int.2 h))
            clear h32 HE hW
            go_wp2
            go_round
            case rel => exact ⟨k + 1, by omega, by go_num, HN.out⟩
            case measure => simp [intOf]; omega
        · have HC : Hid (s.data.toList.contains 32 = false) := Lib.hid (by rw [HE.out, List.drop_eq_nil_of_le (by rw [size_list]; omega)]; rfl)
          have HWL : Hid (W.data.toList = wOf s.data.toList) := Lib.hid (by rw [← HW.out, wB_list])
          have HS := Lib.hid hWs
          have hs3 : W.size ≤ 6 := by omega
          clear HE hW hWs
          go_wp2
          go_loop [5] (fun i => ∃ k : Nat, k ≤ 143 ∧ i = .int .i64 k ∧ Hid (∀ i < k, (allL.drop i).take W.size ≠ wOf s.data.toList)) (fun i => 143 - (intOf i).toNat)
          case atStart => exact ⟨0, Nat.zero_le _, rfl, Lib.hid (fun i h => by omega)⟩
          case round =>
            obtain ⟨k, hk, rfl, HE⟩ := hrel
            by_cases hlt : k + W.size ≤ 143
            · have b3 : (k : Int) + (W.size : Int) ≤ 143 := by omega
              have b4 : ((k : Int) + (W.size : Int)).toNat = k + W.size := by omega
              have b5 : (k : Int) ≤ (k : Int) + (W.size : Int) := by omega
              have b6 : (0 : Int) ≤ (k : Int) + (W.size : Int) := by omega
              have hx : ((⟨#[32, 91, 32, 93, 32, 40, 32, 41, 32, 123, 32, 125, 32, 46, 32, 45, 62, 32, 43, 43, 32, 45, 45, 32, 38, 32, 42, 32, 43, 32, 45, 32, 126, 32, 33, 32, 47, 32, 37, 32, 60, 60, 32, 62, 62, 32, 60, 32, 62, 32, 60, 61, 32, 62, 61, 32, 61, 61, 32, 33, 61, 32, 94, 32, 124, 32, 38, 38, 32, 124, 124, 32, 63, 32, 58, 32, 59, 32, 46, 46, 46, 32, 61, 32, 42, 61, 32, 47, 61, 32, 37, 61, 32, 43, 61, 32, 45, 61, 32, 60, 60, 61, 32, 62, 62, 61, 32, 38, 61, 32, 94, 61, 32, 124, 61, 32, 44, 32, 35, 32, 35, 35, 32, 60, 58, 32, 58, 62, 32, 60, 37, 32, 37, 62, 32, 37, 58, 32, 37, 58, 37, 58, 32]⟩ : ByteArray).extract k (k + W.size)).data.toList = (allL.drop k).take W.size := by rw [ex_list, show k + W.size - k = W.size by omega]; rfl
              cases hm : (((⟨#[32, 91, 32, 93, 32, 40, 32, 41, 32, 123, 32, 125, 32, 46, 32, 45, 62, 32, 43, 43, 32, 45, 45, 32, 38, 32, 42, 32, 43, 32, 45, 32, 126, 32, 33, 32, 47, 32, 37, 32, 60, 60, 32, 62, 62, 32, 60, 32, 62, 32, 60, 61, 32, 62, 61, 32, 61, 61, 32, 33, 61, 32, 94, 32, 124, 32, 38, 38, 32, 124, 124, 32, 63, 32, 58, 32, 59, 32, 46, 46, 46, 32, 61, 32, 42, 61, 32, 47, 61, 32, 37, 61, 32, 43, 61, 32, 45, 61, 32, 60, 60, 61, 32, 62, 62, 61, 32, 38, 61, 32, 94, 61, 32, 124, 61, 32, 44, 32, 35, 32, 35, 35, 32, 60, 58, 32, 58, 62, 32, 60, 37, 32, 37, 62, 32, 37, 58, 32, 37, 58, 37, 58, 32]⟩ : ByteArray).extract k (k + W.size)).toList == W.toList) with
              | true =>
                have HN : Hid (isPunctB s.data.toList = true) := Lib.hid (by
                  rw [ByteArray.toList_eq, ByteArray.toList_eq, hx, HWL.out, HS.out] at hm
                  have h7 := eq_of_beq hm
                  refine all_only k (by have := HS.out; omega) s.size (by omega) _ ?_ h7 HC.out (fun e => h0 ((size_list s).symm.trans (congrArg List.length e)))
                  have h8 := congrArg (fun l => (l.drop 1).take s.size) h7
                  simp only [wOf, List.drop_succ_cons, List.drop_zero] at h8
                  have h10 : List.take s.size s.data.toList = s.data.toList := List.take_of_length_le (by rw [size_list]; exact Nat.le_refl _)
                  rw [List.take_append_of_le_length (by rw [size_list]; exact Nat.le_refl _), h10] at h8
                  rw [← h8, List.drop_take, List.take_take, List.drop_drop, show min s.size (s.size + 2 - 1) = s.size by omega])
                clear HE hx
                go_wp2
                go_ret
                exact ⟨rb (by rw [HN.out]), rfl⟩
              | false =>
                have HN : Hid (∀ i < k + 1, (allL.drop i).take W.size ≠ wOf s.data.toList) := Lib.hid (fun i hi h => by
                  by_cases e : i = k
                  · subst e
                    rw [ByteArray.toList_eq, ByteArray.toList_eq, hx, HWL.out, h] at hm
                    simp at hm
                  · exact HE.out i (by omega) h)
                clear HE hx
                go_wp2
                go_round
                case rel => exact ⟨k + 1, by have := HS.out; omega, by go_num, HN⟩
                case measure => simp [intOf]; have := HS.out; omega
            · have b3 : ¬ (k : Int) + (W.size : Int) ≤ 143 := by omega
              have HN : Hid (isPunctB s.data.toList = false) := Lib.hid (by
                cases hp : isPunctB s.data.toList with
                | false => rfl
                | true =>
                  obtain ⟨i, h8, h9⟩ := all_has _ (List.contains_iff_mem.1 hp)
                  rw [wOf_len, size_list, ← HS.out] at h8 h9
                  exact absurd h9 (HE.out i (by omega)))
              clear HE
              go_wp2
              go_ret
              exact ⟨rb (by rw [HN.out]), rfl⟩

end Go.Proofs.YtaodjipnffgihaaGreat
