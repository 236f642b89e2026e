/- The document's answer: the tokens of a logical text. -/
import Derived.Test.YtaodjipnffgihaaGreatMzH
import Derived.Outline
import Derived.BigQuiet
import Derived.Deep.QuietTactic
import Derived.Deep.DeepCutAuto
import Derived.Deep.LoopGhost
namespace Go.Proofs.YtaodjipnffgihaaGreat
open Go.RowKit

theorem longest_not8R (l : List UInt8) : (longestOf l).1 ≠ 8 := by
  unfold longestOf
  simp only
  split
  · decide
  · rcases fold_posS l [1, 2, 3, 4, 5, 9] (0, 0) with h | ⟨k, h1, h2, _⟩
    · rw [h]; decide
    · rw [h2]
      simp only [List.mem_cons, List.not_mem_nil, or_false] at h1
      rcases h1 with rfl | rfl | rfl | rfl | rfl | rfl <;> decide

/-- What stands at a place, where no header's name begins: the four cases. -/
theorem next_cases {inc : Bool} {l : List UInt8} (h : inc = true → headerLen l = 0) :
    (remR l = -1 ∧ Hid (nextOf inc l = (0, 0, 20))) ∨ (∃ C : Nat, 0 < C ∧ remR l = (C : Int) ∧ Hid (nextOf inc l = (8, C, 0))) ∨
    (remR l = 0 ∧ (longestOf l).2 = 0 ∧ Hid (nextOf inc l = (0, 0, 21))) ∨ (remR l = 0 ∧ (longestOf l).2 ≠ 0 ∧ Hid (nextOf inc l = ((longestOf l).1, (longestOf l).2, 0))) := by
  have h1 : ¬ (inc && headerLen l != 0) = true := by
    intro h2
    rw [Bool.and_eq_true] at h2
    rw [h h2.1] at h2
    exact absurd h2.2 (by decide)
  have hn : nextOf inc l = if isComment l then (if commentLen l = 0 then (0, 0, 20) else (8, commentLen l, 0)) else if (longestOf l).2 = 0 then (0, 0, 21) else ((longestOf l).1, (longestOf l).2, 0) := by
    unfold nextOf; rw [if_neg h1]
  unfold remR
  rw [hn]
  by_cases hc : isComment l = true
  · rw [if_pos hc, if_pos hc]
    by_cases hl : commentLen l = 0
    · rw [if_pos hl, if_pos hl]; exact .inl ⟨rfl, Lib.hid rfl⟩
    · rw [if_neg hl, if_neg hl]; exact .inr (.inl ⟨_, Nat.pos_of_ne_zero hl, rfl, Lib.hid rfl⟩)
  · rw [if_neg hc, if_neg hc]
    by_cases hl : (longestOf l).2 = 0
    · rw [if_pos hl]; exact .inr (.inr (.inl ⟨rfl, hl, Lib.hid rfl⟩))
    · rw [if_neg hl]; exact .inr (.inr (.inr ⟨rfl, hl, Lib.hid rfl⟩))
theorem next_header {l : List UInt8} (h : headerLen l ≠ 0) : nextOf true l = (7, headerLen l, 0) := by
  unfold nextOf
  rw [if_pos]
  simpa using h

set_option maxRecDepth 100000 in
set_option maxHeartbeats 20000000 in
theorem rTokens_any (s : ByteArray) (w : World) (hs : s.size ≤ 65536) :
    Calls Tryz.prog 39 #[.string s] w fun e w' => (∃ v, e = .returned (.tuple #[v, .int .i64 ((toks s.data.toList 0 0).2 : Nat)]) ∧ ((toks s.data.toList 0 0).2 = 0 → w'.ownsRow w.heap.size 83 5 v (toksY s).length (ydCells (toksY s))) ∧ ((toks s.data.toList 0 0).2 ≠ 0 → v = .slice none 0 0)) ∧ Below w.heap.size w w' := by
  obtain ⟨i0, hi, hz0, hz1, hz2⟩ := info_parts infoTok
  obtain ⟨j0, hj, hy0, hy1, hy2⟩ := info_parts infoStr
  go_enter Tryz.func39, Tryz.ntmps39
  go_wp2
  go_loopg [4, 5, 6, 7] s.size (fun g out line at' space wx => ∃ (tks : List Tk) (ln : List ByteArray) (e a : Nat) (sp : Bool), Hid (RefT s.data.toList tks (lnOf ln) e a sp) ∧ at' = .int .i64 a ∧ space = .bool sp ∧ g = s.size - a ∧ a ≤ s.size ∧ tks.length ≤ e ∧ ln.length ≤ e ∧ e ≤ a ∧
    wx.ownsRow w.heap.size 83 5 out tks.length (ydCells (tks.map (tokY s))) ∧ wx.ownsRow w.heap.size 9 1 line ln.length (strV ln) ∧ Below w.heap.size w wx)
  case atStart => exact ⟨[], [], 0, 0, false, Lib.hid (RefT.start _), rfl, rfl, rfl, Nat.zero_le _, Nat.le_refl _, Nat.le_refl _, Nat.le_refl _, World.ownsRow_nil _ _ _ _, World.ownsRow_nil _ _ _ _, Below.refl _ _⟩
  case round =>
    obtain ⟨tks, ln, e, a, sp, HR, rfl, rfl, rfl, ha, hte, hle, hea, hrow, hlin, hbx⟩ := hrel
    by_cases hlt : a < s.size
    · have hbs := hbx.size
      have CW := fun w => rwhite_any s[a] w
      have ja : (a : Int) < (s.size : Int) := by omega
      cases hw : isWS s[a] with
      | true =>
        have HN := Lib.hid (HR.out.white (by rw [size_list]; exact hlt) hw)
        rw [hw] at CW
        clear hw HR
        go_wp2_with (go_at_call 63; refine (CW _).mono ?_; rintro e w' ⟨rfl, rfl⟩)
        go_roundg (s.size - (a + 1))
        case rel => exact ⟨tks, ln, e, a + 1, true, HN, by go_num, rfl, rfl, by omega, hte, hle, by omega, hrow, hlin, hbx⟩
        case measure => omega
      | false =>
        rw [hw] at CW
        obtain ⟨lv, lcap, rfl⟩ := row_shapeS hlin
        obtain ⟨inc, hinc⟩ : ∃ b, (stOf (lnOf ln) == 2) = b := ⟨_, rfl⟩
        go_upto_region 11 with (go_at_call 63; refine (CW _).mono ?_; rintro e w' ⟨rfl, rfl⟩)
        go_cut [40] (fun t wx => t = .bool inc ∧ wx = wr)
        case first =>
          by_cases h2 : ln.length = 2
          · match ln, h2, hlin, hinc with
            | [x, y], _, hlin, hinc =>
              obtain ⟨g, rfl, _, hc⟩ := row_posS (by simp) hlin
              have c0 := hc 0 (.string x) rfl
              have c1 := hc 1 (.string y) rfl
              have hst : inc = ((x.toList == [35] || x.toList == [37, 58]) && y.toList == [105, 110, 99, 108, 117, 100, 101]) := by
                rw [← hinc, ByteArray.toList_eq, ByteArray.toList_eq]
                show ((if sharpB x.data.toList && inclB y.data.toList then 2 else 3) == 2) = _
                unfold sharpB inclB
                cases ((x.data.toList == [35] || x.data.toList == [37, 58]) && y.data.toList == [105, 110, 99, 108, 117, 100, 101]) <;> rfl
              have HI := Lib.hid hst
              clear hst hinc hc
              cases h1 : (x.toList == [35])
              · cases h3 : (x.toList == [37, 58])
                · have HI2 : Hid (inc = false) := Lib.hid (by rw [HI.out, h1, h3]; rfl)
                  go_wp2_with fail
                  go_meet
                  exact ⟨by rw [HI2.out], rfl⟩
                · have HI2 : Hid (inc = (y.toList == [105, 110, 99, 108, 117, 100, 101])) := Lib.hid (by rw [HI.out, h1, h3]; rfl)
                  cases h4 : (y.toList == [105, 110, 99, 108, 117, 100, 101]) <;>
                  · rw [h4] at HI2
                    go_wp2_with fail
                    go_meet
                    exact ⟨by rw [HI2.out], rfl⟩
              · have HI2 : Hid (inc = (y.toList == [105, 110, 99, 108, 117, 100, 101])) := Lib.hid (by rw [HI.out, h1]; rfl)
                cases h4 : (y.toList == [105, 110, 99, 108, 117, 100, 101]) <;>
                · rw [h4] at HI2
                  go_wp2_with fail
                  go_meet
                  exact ⟨by rw [HI2.out], rfl⟩
          · have hb2 : ((ln.length : Int) == 2) = false := beq_eq_false_iff_ne.2 (by omega)
            have HI2 : Hid (inc = false) := Lib.hid (by
              rw [← hinc]
              match ln, h2 with
              | [], _ => rfl
              | [x], _ => show ((if sharpB x.data.toList then 1 else 3) == 2) = false; split <;> rfl
              | [x, y], h2 => exact absurd rfl h2
              | x :: y :: z :: r, _ => rfl)
            clear h2 hinc
            go_wp2_with fail
            go_meet
            exact ⟨by rw [HI2.out], rfl⟩
        case rest =>
          obtain ⟨rfl, rfl⟩ := hcut
          obtain ⟨S, hS⟩ : ∃ S, s.extract a s.size = S := ⟨_, rfl⟩
          have hSl : S.data.toList = s.data.toList.drop a := by rw [← hS, extract_end]
          have hSz : S.size = s.size - a := by rw [← size_list, hSl, List.length_drop, size_list]
          have CN := fun w => rnamed_any S w (by unfold maxLen; omega) (by omega)
          have CR := fun w => rremark_any S w (by unfold maxLen; omega)
          have CL := fun w => rlongest_any S w (by omega) (by omega)
          rw [hSl] at CN CR CL
          have hcases := next_cases (inc := inc) (l := s.data.toList.drop a)
          have hhead : inc = true → headerLen (s.data.toList.drop a) ≠ 0 → nextOf inc (s.data.toList.drop a) = (7, headerLen (s.data.toList.drop a), 0) := fun h1 h2 => by rw [h1]; exact next_header h2
          have h8 := longest_not8R (s.data.toList.drop a)
          obtain ⟨H, hH⟩ : ∃ H, headerLen (s.data.toList.drop a) = H := ⟨_, rfl⟩
          obtain ⟨K, hK⟩ : ∃ K, (longestOf (s.data.toList.drop a)).1 = K := ⟨_, rfl⟩
          obtain ⟨N, hN⟩ : ∃ N, (longestOf (s.data.toList.drop a)).2 = N := ⟨_, rfl⟩
          rw [hH] at hcases hhead CN
          rw [hK] at hcases CL h8
          rw [hN] at hcases CL
          have k8 := h8
          rw [← hinc] at hcases hhead
          clear hH hK hN h8 hSz
          have jS : (a : Int) ≤ (s.size : Int) := by omega
          cases inc with
          | true =>
            by_cases hH0 : H = 0
            · subst hH0
              have hR := hcases (fun _ => rfl)
              clear hcases hhead hinc
              rcases hR with ⟨hRv, HX⟩ | ⟨C, hC, hRv, HX⟩ | ⟨hRv, hN0, HX⟩ | ⟨hRv, hN0, HX⟩
              · rw [hRv] at CR
                have HE := Lib.hid (HR.out.err (by rw [size_list]; exact hlt) hw HX.out (by decide))
                go_wp2_with (first | (go_at_call 64; refine (CN _).mono ?_; rintro e w' ⟨rfl, rfl⟩) | (go_at_call 65; refine (CR _).mono ?_; rintro e w' ⟨rfl, rfl⟩))
                go_ret2
                exact ⟨⟨_, r2cS (by rw [HE.out]; rfl), (fun h => by rw [HE.out] at h; cases h), fun _ => rfl⟩, hbx⟩
              · rw [hRv] at CR
                have c0 : ((C : Int) == 0) = false := beq_eq_false_iff_ne.2 (by omega)
                have c1 : ¬ (C : Int) < 0 := by omega
                obtain ⟨n1, n2⟩ := RefT.pos (by rw [size_list]; exact hlt) HX.out
                rw [size_list] at n2
                have p1 : (a : Int) + (C : Int) ≤ (s.size : Int) := by omega
                have p2 : ((a : Int) + (C : Int)).toNat = a + C := by omega
                have p3 : (a : Int) ≤ (a : Int) + (C : Int) := by omega
                have p4 : (0 : Int) ≤ (a : Int) + (C : Int) := by omega
                have hbx1 := hbx
                have hbs1 := hbs
                have hrow1 := hrow
                have hlin1 := hlin
                go_wp2_with (first | (go_at_call 64; refine (CN _).mono ?_; rintro e w' ⟨rfl, rfl⟩) | (go_at_call 65; refine (CR _).mono ?_; rintro e w' ⟨rfl, rfl⟩) | (at_builtin; refine wpList_append_own _ rfl _ _ 44 rfl w.heap.size 83 i0 (.agg #[.int .i64 0, .string ⟨#[]⟩, .int .i64 0, .int .i64 0, .bool false]) 5 48 Tryz.underlying44 hi hz0 hz1 hz2 rfl (by decide) _ _ _ rfl (hrow1.alloc _) ⟨wc.heap.size, 0, none⟩ 1 1 [.int .i64 8, .string (s.extract a (a + C)), .int .i64 a, .int .i64 ((a : Int) + C), .bool sp] rfl rfl (cell5_new _ _ _ _ _ _ _) (by simp [Value.oneCell']) (by unfold maxLen; omega) (by omega) (by simp; omega) ?_; intro v2 w2 hown2 hgrow2 hn2; clear hn2; have hB2 := (hbx1.alloc hbs1 _).grown hgrow2 (by simp; omega) (fun j e => (hrow1.lt j e).1); have hbs2 := hB2.size; have hlin2 := ownsRow_keepsR (hlin1.alloc _) (KeepsT.grown_row (T := 9) hgrow2 (hrow1.alloc _) (by decide))))
                go_roundg (s.size - (a + C))
                case rel =>
                  refine ⟨tks ++ [⟨8, a, a + C, sp⟩], ln, a + C, a + C, false, Lib.hid (HR.out.tok (by rw [size_list]; exact hlt) hw HX.out (rfl)), by go_num, rfl, rfl, by omega, by rw [List.length_append]; simp only [List.length_cons, List.length_nil]; omega, by omega, Nat.le_refl _, ?_, hlin2, hB2⟩
                  rw [List.length_append, List.map_append, List.map_singleton, ydCells_snoc]
                  exact hown2
                case measure => omega
              · rw [hRv] at CR
                rw [hN0] at CL
                have HE := Lib.hid (HR.out.err (by rw [size_list]; exact hlt) hw HX.out (by decide))
                go_wp2_with (first | (go_at_call 64; refine (CN _).mono ?_; rintro e w' ⟨rfl, rfl⟩) | (go_at_call 65; refine (CR _).mono ?_; rintro e w' ⟨rfl, rfl⟩) | (go_at_call 66; refine (CL _).mono ?_; rintro e w1 ⟨rfl, hb1⟩; have hbx1 := hbx.trans (hb1.mono hbx.size); have hbs1 := hbx1.size; have hrow1 := ownsRow_keepsR hrow (KeepsT.of_below hb1); have hlin1 := ownsRow_keepsR hlin (KeepsT.of_below hb1)))
                go_ret2
                exact ⟨⟨_, r2cS (by rw [HE.out]; rfl), (fun h => by rw [HE.out] at h; cases h), fun _ => rfl⟩, hbx1⟩
              · rw [hRv] at CR
                obtain ⟨n1, n2⟩ := RefT.pos (by rw [size_list]; exact hlt) HX.out
                rw [size_list] at n2
                have c0 : ((N : Int) == 0) = false := beq_eq_false_iff_ne.2 (by omega)
                by_cases k9 : K = 9
                · have d9 : ((K : Int) == 9) = true := by simp [k9]
                  subst k9
                  have p1 : (a : Int) + (N : Int) ≤ (s.size : Int) := by omega
                  have p2 : ((a : Int) + (N : Int)).toNat = a + N := by omega
                  have p3 : (a : Int) ≤ (a : Int) + (N : Int) := by omega
                  have p4 : (0 : Int) ≤ (a : Int) + (N : Int) := by omega
                  go_wp2_with (first | (go_at_call 64; refine (CN _).mono ?_; rintro e w' ⟨rfl, rfl⟩) | (go_at_call 65; refine (CR _).mono ?_; rintro e w' ⟨rfl, rfl⟩) | (go_at_call 66; refine (CL _).mono ?_; rintro e w1 ⟨rfl, hb1⟩; have hbx1 := hbx.trans (hb1.mono hbx.size); have hbs1 := hbx1.size; have hrow1 := ownsRow_keepsR hrow (KeepsT.of_below hb1); have hlin1 := ownsRow_keepsR hlin (KeepsT.of_below hb1)) | (at_builtin; refine wpList_append_own _ rfl _ _ 44 rfl w.heap.size 83 i0 (.agg #[.int .i64 0, .string ⟨#[]⟩, .int .i64 0, .int .i64 0, .bool false]) 5 48 Tryz.underlying44 hi hz0 hz1 hz2 rfl (by decide) _ _ _ rfl (hrow1.alloc _) ⟨w1.heap.size, 0, none⟩ 1 1 [.int .i64 9, .string (s.extract a (a + N)), .int .i64 a, .int .i64 ((a : Int) + N), .bool sp] rfl rfl (cell5_new _ _ _ _ _ _ _) (by simp [Value.oneCell']) (by unfold maxLen; omega) (by omega) (by simp; omega) ?_; intro v2 w2 hown2 hgrow2 hn2; clear hn2; have hB2 := (hbx1.alloc hbs1 _).grown hgrow2 (by simp; omega) (fun j e => (hrow1.lt j e).1); have hbs2 := hB2.size; have hlin2 := ownsRow_keepsR (hlin1.alloc _) (KeepsT.grown_row (T := 9) hgrow2 (hrow1.alloc _) (by decide))))
                  go_roundg (s.size - (a + N))
                  case rel =>
                    refine ⟨tks ++ [⟨9, a, a + N, sp⟩], [], a + N, a + N, false, Lib.hid (HR.out.tok (by rw [size_list]; exact hlt) hw HX.out (rfl)), by go_num, rfl, rfl, by omega, by rw [List.length_append]; simp only [List.length_cons, List.length_nil]; omega, Nat.zero_le _, Nat.le_refl _, ?_, World.ownsRow_nil _ _ _ _, hB2⟩
                    rw [List.length_append, List.map_append, List.map_singleton, ydCells_snoc]
                    exact hown2
                  case measure => omega
                · have d9 : ((K : Int) == 9) = false := beq_eq_false_iff_ne.2 (by omega)
                  have d8 : ((K : Int) != 8) = true := by rw [bne_iff_ne]; omega
                  have d8b : ((K : Int) == 8) = false := beq_eq_false_iff_ne.2 (by omega)
                  have p1 : (a : Int) + (N : Int) ≤ (s.size : Int) := by omega
                  have p2 : ((a : Int) + (N : Int)).toNat = a + N := by omega
                  have p3 : (a : Int) ≤ (a : Int) + (N : Int) := by omega
                  have p4 : (0 : Int) ≤ (a : Int) + (N : Int) := by omega
                  go_wp2_with (first | (go_at_call 64; refine (CN _).mono ?_; rintro e w' ⟨rfl, rfl⟩) | (go_at_call 65; refine (CR _).mono ?_; rintro e w' ⟨rfl, rfl⟩) | (go_at_call 66; refine (CL _).mono ?_; rintro e w1 ⟨rfl, hb1⟩; have hbx1 := hbx.trans (hb1.mono hbx.size); have hbs1 := hbx1.size; have hrow1 := ownsRow_keepsR hrow (KeepsT.of_below hb1); have hlin1 := ownsRow_keepsR hlin (KeepsT.of_below hb1)) | (at_builtin; refine wpList_append_own _ rfl _ _ 44 rfl w.heap.size 83 i0 (.agg #[.int .i64 0, .string ⟨#[]⟩, .int .i64 0, .int .i64 0, .bool false]) 5 48 Tryz.underlying44 hi hz0 hz1 hz2 rfl (by decide) _ _ _ rfl (hrow1.alloc _) ⟨w1.heap.size, 0, none⟩ 1 1 [.int .i64 K, .string (s.extract a (a + N)), .int .i64 a, .int .i64 ((a : Int) + N), .bool sp] rfl rfl (cell5_new _ _ _ _ _ _ _) (by simp [Value.oneCell']) (by unfold maxLen; omega) (by omega) (by simp; omega) ?_; intro v2 w2 hown2 hgrow2 hn2; clear hn2; have hB2 := (hbx1.alloc hbs1 _).grown hgrow2 (by simp; omega) (fun j e => (hrow1.lt j e).1); have hbs2 := hB2.size; have hlin2 := ownsRow_keepsR (hlin1.alloc _) (KeepsT.grown_row (T := 9) hgrow2 (hrow1.alloc _) (by decide))) | (at_builtin; refine wpList_append_own _ rfl _ _ 22 rfl w.heap.size 9 j0 (.string ⟨#[]⟩) 1 16 Tryz.underlying22 hj hy0 hy1 hy2 rfl (by decide) _ _ _ rfl (hlin2.alloc _) ⟨w2.heap.size, 0, none⟩ 1 1 [.string (s.extract a (a + N))] rfl rfl (cell1_newR _ _ _) (by simp [Value.oneCell']) (by unfold maxLen; omega) (by omega) (by simp; omega) ?_; intro v3 w3 hown3 hgrow3 hn3; clear hn3; have hB3 := (hB2.alloc hbs2 _).grown hgrow3 (by simp; omega) (fun j e => (hlin2.lt j e).1); have hrow3 := ownsRow_keepsR (hown2.alloc _) (KeepsT.grown_row (T := 83) hgrow3 (hlin2.alloc _) (by decide))))
                  go_roundg (s.size - (a + N))
                  case rel =>
                    refine ⟨tks ++ [⟨K, a, a + N, sp⟩], (ln ++ [s.extract a (a + N)]), a + N, a + N, false, Lib.hid (HR.out.tok (by rw [size_list]; exact hlt) hw HX.out (by rw [lnOf_snoc, extract_list]; exact stOf_snoc _ _ (by first | decide | exact k8) (by first | decide | exact k9))), by go_num, rfl, rfl, by omega, by rw [List.length_append]; simp only [List.length_cons, List.length_nil]; omega, by rw [List.length_append]; simp only [List.length_cons, List.length_nil]; omega, Nat.le_refl _, ?_, by rw [List.length_append, strV_snoc]; exact hown3, hB3⟩
                    rw [List.length_append, List.map_append, List.map_singleton, ydCells_snoc]
                    exact hrow3
                  case measure => omega
            · have HX := Lib.hid (hhead hinc hH0)
              clear hcases hhead
              have c0 : ((H : Int) == 0) = false := beq_eq_false_iff_ne.2 (by omega)
              have c1 : ¬ (H : Int) < 0 := by omega
              obtain ⟨n1, n2⟩ := RefT.pos (by rw [size_list]; exact hlt) HX.out
              rw [size_list] at n2
              have p1 : (a : Int) + (H : Int) ≤ (s.size : Int) := by omega
              have p2 : ((a : Int) + (H : Int)).toNat = a + H := by omega
              have p3 : (a : Int) ≤ (a : Int) + (H : Int) := by omega
              have p4 : (0 : Int) ≤ (a : Int) + (H : Int) := by omega
              have hbx1 := hbx
              have hbs1 := hbs
              have hrow1 := hrow
              have hlin1 := hlin
              go_wp2_with (first | (go_at_call 64; refine (CN _).mono ?_; rintro e w' ⟨rfl, rfl⟩) | (go_at_call 65; refine (CR _).mono ?_; rintro e w' ⟨rfl, rfl⟩) | (at_builtin; refine wpList_append_own _ rfl _ _ 44 rfl w.heap.size 83 i0 (.agg #[.int .i64 0, .string ⟨#[]⟩, .int .i64 0, .int .i64 0, .bool false]) 5 48 Tryz.underlying44 hi hz0 hz1 hz2 rfl (by decide) _ _ _ rfl (hrow1.alloc _) ⟨wc.heap.size, 0, none⟩ 1 1 [.int .i64 7, .string (s.extract a (a + H)), .int .i64 a, .int .i64 ((a : Int) + H), .bool sp] rfl rfl (cell5_new _ _ _ _ _ _ _) (by simp [Value.oneCell']) (by unfold maxLen; omega) (by omega) (by simp; omega) ?_; intro v2 w2 hown2 hgrow2 hn2; clear hn2; have hB2 := (hbx1.alloc hbs1 _).grown hgrow2 (by simp; omega) (fun j e => (hrow1.lt j e).1); have hbs2 := hB2.size; have hlin2 := ownsRow_keepsR (hlin1.alloc _) (KeepsT.grown_row (T := 9) hgrow2 (hrow1.alloc _) (by decide))) | (at_builtin; refine wpList_append_own _ rfl _ _ 22 rfl w.heap.size 9 j0 (.string ⟨#[]⟩) 1 16 Tryz.underlying22 hj hy0 hy1 hy2 rfl (by decide) _ _ _ rfl (hlin2.alloc _) ⟨w2.heap.size, 0, none⟩ 1 1 [.string (s.extract a (a + H))] rfl rfl (cell1_newR _ _ _) (by simp [Value.oneCell']) (by unfold maxLen; omega) (by omega) (by simp; omega) ?_; intro v3 w3 hown3 hgrow3 hn3; clear hn3; have hB3 := (hB2.alloc hbs2 _).grown hgrow3 (by simp; omega) (fun j e => (hlin2.lt j e).1); have hrow3 := ownsRow_keepsR (hown2.alloc _) (KeepsT.grown_row (T := 83) hgrow3 (hlin2.alloc _) (by decide))))
              go_roundg (s.size - (a + H))
              case rel =>
                refine ⟨tks ++ [⟨7, a, a + H, sp⟩], (ln ++ [s.extract a (a + H)]), a + H, a + H, false, Lib.hid (HR.out.tok (by rw [size_list]; exact hlt) hw HX.out (by rw [lnOf_snoc, extract_list]; exact stOf_snoc _ _ (by first | decide | exact k8) (by first | decide | exact k9))), by go_num, rfl, rfl, by omega, by rw [List.length_append]; simp only [List.length_cons, List.length_nil]; omega, by rw [List.length_append]; simp only [List.length_cons, List.length_nil]; omega, Nat.le_refl _, ?_, by rw [List.length_append, strV_snoc]; exact hown3, hB3⟩
                rw [List.length_append, List.map_append, List.map_singleton, ydCells_snoc]
                exact hrow3
              case measure => omega
          | false =>
            have hR := hcases (fun h => by rw [hinc] at h; cases h)
            clear hcases hhead hinc
            rcases hR with ⟨hRv, HX⟩ | ⟨C, hC, hRv, HX⟩ | ⟨hRv, hN0, HX⟩ | ⟨hRv, hN0, HX⟩
            · rw [hRv] at CR
              have HE := Lib.hid (HR.out.err (by rw [size_list]; exact hlt) hw HX.out (by decide))
              go_wp2_with (first | (go_at_call 64; refine (CN _).mono ?_; rintro e w' ⟨rfl, rfl⟩) | (go_at_call 65; refine (CR _).mono ?_; rintro e w' ⟨rfl, rfl⟩))
              go_ret2
              exact ⟨⟨_, r2cS (by rw [HE.out]; rfl), (fun h => by rw [HE.out] at h; cases h), fun _ => rfl⟩, hbx⟩
            · rw [hRv] at CR
              have c0 : ((C : Int) == 0) = false := beq_eq_false_iff_ne.2 (by omega)
              have c1 : ¬ (C : Int) < 0 := by omega
              obtain ⟨n1, n2⟩ := RefT.pos (by rw [size_list]; exact hlt) HX.out
              rw [size_list] at n2
              have p1 : (a : Int) + (C : Int) ≤ (s.size : Int) := by omega
              have p2 : ((a : Int) + (C : Int)).toNat = a + C := by omega
              have p3 : (a : Int) ≤ (a : Int) + (C : Int) := by omega
              have p4 : (0 : Int) ≤ (a : Int) + (C : Int) := by omega
              have hbx1 := hbx
              have hbs1 := hbs
              have hrow1 := hrow
              have hlin1 := hlin
              go_wp2_with (first | (go_at_call 64; refine (CN _).mono ?_; rintro e w' ⟨rfl, rfl⟩) | (go_at_call 65; refine (CR _).mono ?_; rintro e w' ⟨rfl, rfl⟩) | (at_builtin; refine wpList_append_own _ rfl _ _ 44 rfl w.heap.size 83 i0 (.agg #[.int .i64 0, .string ⟨#[]⟩, .int .i64 0, .int .i64 0, .bool false]) 5 48 Tryz.underlying44 hi hz0 hz1 hz2 rfl (by decide) _ _ _ rfl (hrow1.alloc _) ⟨wc.heap.size, 0, none⟩ 1 1 [.int .i64 8, .string (s.extract a (a + C)), .int .i64 a, .int .i64 ((a : Int) + C), .bool sp] rfl rfl (cell5_new _ _ _ _ _ _ _) (by simp [Value.oneCell']) (by unfold maxLen; omega) (by omega) (by simp; omega) ?_; intro v2 w2 hown2 hgrow2 hn2; clear hn2; have hB2 := (hbx1.alloc hbs1 _).grown hgrow2 (by simp; omega) (fun j e => (hrow1.lt j e).1); have hbs2 := hB2.size; have hlin2 := ownsRow_keepsR (hlin1.alloc _) (KeepsT.grown_row (T := 9) hgrow2 (hrow1.alloc _) (by decide))))
              go_roundg (s.size - (a + C))
              case rel =>
                refine ⟨tks ++ [⟨8, a, a + C, sp⟩], ln, a + C, a + C, false, Lib.hid (HR.out.tok (by rw [size_list]; exact hlt) hw HX.out (rfl)), by go_num, rfl, rfl, by omega, by rw [List.length_append]; simp only [List.length_cons, List.length_nil]; omega, by omega, Nat.le_refl _, ?_, hlin2, hB2⟩
                rw [List.length_append, List.map_append, List.map_singleton, ydCells_snoc]
                exact hown2
              case measure => omega
            · rw [hRv] at CR
              rw [hN0] at CL
              have HE := Lib.hid (HR.out.err (by rw [size_list]; exact hlt) hw HX.out (by decide))
              go_wp2_with (first | (go_at_call 64; refine (CN _).mono ?_; rintro e w' ⟨rfl, rfl⟩) | (go_at_call 65; refine (CR _).mono ?_; rintro e w' ⟨rfl, rfl⟩) | (go_at_call 66; refine (CL _).mono ?_; rintro e w1 ⟨rfl, hb1⟩; have hbx1 := hbx.trans (hb1.mono hbx.size); have hbs1 := hbx1.size; have hrow1 := ownsRow_keepsR hrow (KeepsT.of_below hb1); have hlin1 := ownsRow_keepsR hlin (KeepsT.of_below hb1)))
              go_ret2
              exact ⟨⟨_, r2cS (by rw [HE.out]; rfl), (fun h => by rw [HE.out] at h; cases h), fun _ => rfl⟩, hbx1⟩
            · rw [hRv] at CR
              obtain ⟨n1, n2⟩ := RefT.pos (by rw [size_list]; exact hlt) HX.out
              rw [size_list] at n2
              have c0 : ((N : Int) == 0) = false := beq_eq_false_iff_ne.2 (by omega)
              by_cases k9 : K = 9
              · have d9 : ((K : Int) == 9) = true := by simp [k9]
                subst k9
                have p1 : (a : Int) + (N : Int) ≤ (s.size : Int) := by omega
                have p2 : ((a : Int) + (N : Int)).toNat = a + N := by omega
                have p3 : (a : Int) ≤ (a : Int) + (N : Int) := by omega
                have p4 : (0 : Int) ≤ (a : Int) + (N : Int) := by omega
                go_wp2_with (first | (go_at_call 64; refine (CN _).mono ?_; rintro e w' ⟨rfl, rfl⟩) | (go_at_call 65; refine (CR _).mono ?_; rintro e w' ⟨rfl, rfl⟩) | (go_at_call 66; refine (CL _).mono ?_; rintro e w1 ⟨rfl, hb1⟩; have hbx1 := hbx.trans (hb1.mono hbx.size); have hbs1 := hbx1.size; have hrow1 := ownsRow_keepsR hrow (KeepsT.of_below hb1); have hlin1 := ownsRow_keepsR hlin (KeepsT.of_below hb1)) | (at_builtin; refine wpList_append_own _ rfl _ _ 44 rfl w.heap.size 83 i0 (.agg #[.int .i64 0, .string ⟨#[]⟩, .int .i64 0, .int .i64 0, .bool false]) 5 48 Tryz.underlying44 hi hz0 hz1 hz2 rfl (by decide) _ _ _ rfl (hrow1.alloc _) ⟨w1.heap.size, 0, none⟩ 1 1 [.int .i64 9, .string (s.extract a (a + N)), .int .i64 a, .int .i64 ((a : Int) + N), .bool sp] rfl rfl (cell5_new _ _ _ _ _ _ _) (by simp [Value.oneCell']) (by unfold maxLen; omega) (by omega) (by simp; omega) ?_; intro v2 w2 hown2 hgrow2 hn2; clear hn2; have hB2 := (hbx1.alloc hbs1 _).grown hgrow2 (by simp; omega) (fun j e => (hrow1.lt j e).1); have hbs2 := hB2.size; have hlin2 := ownsRow_keepsR (hlin1.alloc _) (KeepsT.grown_row (T := 9) hgrow2 (hrow1.alloc _) (by decide))))
                go_roundg (s.size - (a + N))
                case rel =>
                  refine ⟨tks ++ [⟨9, a, a + N, sp⟩], [], a + N, a + N, false, Lib.hid (HR.out.tok (by rw [size_list]; exact hlt) hw HX.out (rfl)), by go_num, rfl, rfl, by omega, by rw [List.length_append]; simp only [List.length_cons, List.length_nil]; omega, Nat.zero_le _, Nat.le_refl _, ?_, World.ownsRow_nil _ _ _ _, hB2⟩
                  rw [List.length_append, List.map_append, List.map_singleton, ydCells_snoc]
                  exact hown2
                case measure => omega
              · have d9 : ((K : Int) == 9) = false := beq_eq_false_iff_ne.2 (by omega)
                have d8 : ((K : Int) != 8) = true := by rw [bne_iff_ne]; omega
                have d8b : ((K : Int) == 8) = false := beq_eq_false_iff_ne.2 (by omega)
                have p1 : (a : Int) + (N : Int) ≤ (s.size : Int) := by omega
                have p2 : ((a : Int) + (N : Int)).toNat = a + N := by omega
                have p3 : (a : Int) ≤ (a : Int) + (N : Int) := by omega
                have p4 : (0 : Int) ≤ (a : Int) + (N : Int) := by omega
                go_wp2_with (first | (go_at_call 64; refine (CN _).mono ?_; rintro e w' ⟨rfl, rfl⟩) | (go_at_call 65; refine (CR _).mono ?_; rintro e w' ⟨rfl, rfl⟩) | (go_at_call 66; refine (CL _).mono ?_; rintro e w1 ⟨rfl, hb1⟩; have hbx1 := hbx.trans (hb1.mono hbx.size); have hbs1 := hbx1.size; have hrow1 := ownsRow_keepsR hrow (KeepsT.of_below hb1); have hlin1 := ownsRow_keepsR hlin (KeepsT.of_below hb1)) | (at_builtin; refine wpList_append_own _ rfl _ _ 44 rfl w.heap.size 83 i0 (.agg #[.int .i64 0, .string ⟨#[]⟩, .int .i64 0, .int .i64 0, .bool false]) 5 48 Tryz.underlying44 hi hz0 hz1 hz2 rfl (by decide) _ _ _ rfl (hrow1.alloc _) ⟨w1.heap.size, 0, none⟩ 1 1 [.int .i64 K, .string (s.extract a (a + N)), .int .i64 a, .int .i64 ((a : Int) + N), .bool sp] rfl rfl (cell5_new _ _ _ _ _ _ _) (by simp [Value.oneCell']) (by unfold maxLen; omega) (by omega) (by simp; omega) ?_; intro v2 w2 hown2 hgrow2 hn2; clear hn2; have hB2 := (hbx1.alloc hbs1 _).grown hgrow2 (by simp; omega) (fun j e => (hrow1.lt j e).1); have hbs2 := hB2.size; have hlin2 := ownsRow_keepsR (hlin1.alloc _) (KeepsT.grown_row (T := 9) hgrow2 (hrow1.alloc _) (by decide))) | (at_builtin; refine wpList_append_own _ rfl _ _ 22 rfl w.heap.size 9 j0 (.string ⟨#[]⟩) 1 16 Tryz.underlying22 hj hy0 hy1 hy2 rfl (by decide) _ _ _ rfl (hlin2.alloc _) ⟨w2.heap.size, 0, none⟩ 1 1 [.string (s.extract a (a + N))] rfl rfl (cell1_newR _ _ _) (by simp [Value.oneCell']) (by unfold maxLen; omega) (by omega) (by simp; omega) ?_; intro v3 w3 hown3 hgrow3 hn3; clear hn3; have hB3 := (hB2.alloc hbs2 _).grown hgrow3 (by simp; omega) (fun j e => (hlin2.lt j e).1); have hrow3 := ownsRow_keepsR (hown2.alloc _) (KeepsT.grown_row (T := 83) hgrow3 (hlin2.alloc _) (by decide))))
                go_roundg (s.size - (a + N))
                case rel =>
                  refine ⟨tks ++ [⟨K, a, a + N, sp⟩], (ln ++ [s.extract a (a + N)]), a + N, a + N, false, Lib.hid (HR.out.tok (by rw [size_list]; exact hlt) hw HX.out (by rw [lnOf_snoc, extract_list]; exact stOf_snoc _ _ (by first | decide | exact k8) (by first | decide | exact k9))), by go_num, rfl, rfl, by omega, by rw [List.length_append]; simp only [List.length_cons, List.length_nil]; omega, by rw [List.length_append]; simp only [List.length_cons, List.length_nil]; omega, Nat.le_refl _, ?_, by rw [List.length_append, strV_snoc]; exact hown3, hB3⟩
                  rw [List.length_append, List.map_append, List.map_singleton, ydCells_snoc]
                  exact hrow3
                case measure => omega
    · obtain rfl : a = s.size := by omega
      have HA := Lib.hid (HR.out.all)
      have ja : ¬ (s.size : Int) < (s.size : Int) := by omega
      clear HR
      go_wp2
      go_ret2
      have hT : toksY s = tks.map (tokY s) := by unfold toksY; rw [HA.out]
      refine ⟨⟨_, r2cS (by rw [HA.out]; rfl), fun _ => ?_, fun h => absurd (by rw [HA.out]) h⟩, hbx⟩
      rw [hT, List.length_map]
      exact hrow

end Go.Proofs.YtaodjipnffgihaaGreat
