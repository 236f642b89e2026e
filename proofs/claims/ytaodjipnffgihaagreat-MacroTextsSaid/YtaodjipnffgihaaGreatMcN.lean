/- The document's answer, layer 5: Among, at, Of, and whether texts are the same. -/
import Derived.Test.YtaodjipnffgihaaGreatMcL
import Derived.Test.YtaodjipnffgihaaGreatMzH
namespace Go.Proofs.YtaodjipnffgihaaGreat
open Go.RowKit Go.Shelf

/-- Is the token at a place that punctuator? -/
def atP (ts : List Tz) (i : Nat) (l : List UInt8) : Bool := match ts[i]? with
  | some t => isP t l
  | none => false
set_option maxRecDepth 100000 in
set_option maxHeartbeats 2000000 in
theorem rat_any (ts : List Tz) (n cap i : Nat) (a : Option Addr) (s : ByteArray) (l : List UInt8) (w : World) (hs : s.toList = l) (hn : ts.length = n) (hn2 : n * 48 ≤ 140737488355328) (hT : TzIn w a ts) :
    Calls Tryz.prog 43 #[.slice a n cap, .int .i64 i, .string s] w fun e w' => e = .returned (.bool (atP ts i l)) ∧ w = w' := by
  by_cases hi : i < n
  · obtain ⟨t, ht⟩ : ∃ t, ts[i]? = some t := ⟨_, List.getElem?_eq_getElem (by rw [hn]; exact hi)⟩
    have HA : Hid (atP ts i l = (t.k == 5 && t.tx.toList == s.toList)) := Lib.hid (by unfold atP; rw [ht, hs]; rfl)
    obtain ⟨b, o, rfl, hg1, hr⟩ := hT (by omega)
    obtain ⟨c0, c1, -, -, -⟩ := hr i t ht
    have j1 : (i : Int) < (n : Int) := by omega
    have j0 : (0 : Int) ≤ (i : Int) := by omega
    clear hn hT hr ht hs
    cases h5 : (t.k == 5) with
    | false =>
      have HA2 : Hid (atP ts i l = false) := Lib.hid (by rw [HA.out, h5]; rfl)
      go_enter Tryz.func43, Tryz.ntmps43
      go_wp2
      go_ret
      exact ⟨rb (by rw [HA2.out]), rfl⟩
    | true =>
      have HA2 : Hid (atP ts i l = (t.tx.toList == s.toList)) := Lib.hid (by rw [HA.out, h5]; rfl)
      go_enter Tryz.func43, Tryz.ntmps43
      go_wp2
      go_ret
      exact ⟨rb (by rw [HA2.out]), rfl⟩
  · have HA : Hid (atP ts i l = false) := Lib.hid (by unfold atP; rw [List.getElem?_eq_none (by rw [hn]; omega)])
    have j1 : ¬ (i : Int) < (n : Int) := by omega
    clear hn hT hs
    go_enter Tryz.func43, Tryz.ntmps43
    go_wp2
    go_ret
    exact ⟨rb (by rw [HA.out]), rfl⟩

theorem amongS_drop {ss : List ByteArray} {s r : ByteArray} {k : Nat} (h : ss[k]? = some r) : amongS (ss.drop k) s = (r.toList == s.toList || amongS (ss.drop (k + 1)) s) := by
  rw [List.drop_eq_getElem_cons (List.getElem?_eq_some_iff.1 h).1, (List.getElem?_eq_some_iff.1 h).2]
  rfl
set_option maxRecDepth 100000 in
set_option maxHeartbeats 2000000 in
theorem rAmong_any (ss : List ByteArray) (s : ByteArray) (n cap : Nat) (a : Option Addr) (w : World) (hn : ss.length = n) (hn2 : n * 16 ≤ 140737488355328) (hT : StrIn w a ss) :
    Calls Tryz.prog 42 #[.slice a n cap, .string s] w fun e w' => e = .returned (.bool (amongS ss s)) ∧ w = w' := by
  have HN := Lib.hid hn
  have HT := Lib.hid hT
  obtain ⟨R, hR⟩ : ∃ R, amongS ss s = R := ⟨_, rfl⟩
  have HR : Hid (R = amongS (ss.drop 0) s) := Lib.hid hR.symm
  rw [hR]
  clear hn hT hR
  go_enter Tryz.func42, Tryz.ntmps42
  go_wp2
  go_loopw [5] (fun i wx => ∃ k : Nat, k ≤ n ∧ i = .int .i64 k ∧ Hid (R = amongS (ss.drop k) s) ∧ wx = w) (fun i _ => n - (intOf i).toNat)
  case atStart => exact ⟨0, Nat.zero_le _, rfl, HR, rfl⟩
  case round =>
    obtain ⟨k, hk, rfl, HK, rfl⟩ := hrel
    by_cases hlt : k < n
    · obtain ⟨r, hr⟩ : ∃ r, ss[k]? = some r := ⟨_, List.getElem?_eq_getElem (by rw [HN.out]; exact hlt)⟩
      obtain ⟨b, o, rfl, hg1, hrz⟩ := HT.out (by rw [HN.out]; omega)
      have c0 := hrz k r hr
      have hst := HK.out
      rw [amongS_drop hr] at hst
      have HS := Lib.hid hst
      clear hr hrz hst HK
      have j1 : (k : Int) < (n : Int) := by omega
      have j0 : (0 : Int) ≤ (k : Int) := by omega
      cases he : (r.toList == s.toList) with
      | true =>
        have HS2 : Hid (R = true) := Lib.hid (by rw [HS.out, he]; rfl)
        clear HS
        go_wp2
        go_ret
        exact ⟨rb (by rw [HS2.out]), rfl⟩
      | false =>
        have HS2 : Hid (R = amongS (ss.drop (k + 1)) s) := Lib.hid (by rw [HS.out, he]; rfl)
        clear HS
        go_wp2
        refine ⟨⟨k + 1, by omega, by go_num, HS2, by trivial⟩, ?_⟩
        simp [intOf]; omega
    · have HS2 : Hid (R = false) := Lib.hid (by rw [HK.out, List.drop_eq_nil_of_le (by rw [HN.out]; omega)]; rfl)
      clear HK
      go_wp2
      go_ret
      exact ⟨rb (by rw [HS2.out]), rfl⟩

set_option maxRecDepth 100000 in
set_option maxHeartbeats 4000000 in
theorem rOf_any (ts : List Tz) (n cap : Nat) (a : Option Addr) (w : World) (hn : ts.length = n) (hn2 : n * 48 ≤ 140737488355328) (hT : TzIn w a ts) :
    Calls Tryz.prog 46 #[.slice a n cap] w fun e w' => (∃ v, e = .returned v ∧ w'.ownsRow w.heap.size 35 4 v n (pnCells (ts.map pzOf))) ∧ Below w.heap.size w w' := by
  obtain ⟨i0, hi, hz0, hz1, hz2⟩ := info_parts infoPz
  have HN := Lib.hid hn
  have HT := Lib.hid hT
  clear hn hT
  go_enter Tryz.func46, Tryz.ntmps46
  go_wp2
  go_loopg [3, 4] n (fun g v i wx => ∃ k : Nat, k ≤ n ∧ i = .int .i64 k ∧ g = n - k ∧ wx.ownsRow w.heap.size 35 4 v k (pnCells ((ts.take k).map pzOf)) ∧ Below w.heap.size w wx)
  case atStart => exact ⟨0, Nat.zero_le _, rfl, rfl, World.ownsRow_nil _ _ _ _, Below.refl _ _⟩
  case round =>
    obtain ⟨k, hk, rfl, rfl, hrow, hbx⟩ := hrel
    by_cases hlt : k < n
    · obtain ⟨t, ht⟩ : ∃ t, ts[k]? = some t := ⟨_, List.getElem?_eq_getElem (by rw [HN.out]; exact hlt)⟩
      obtain ⟨b, o, rfl, hg1, hr⟩ := HT.out (by rw [HN.out]; omega)
      have hr := hr.below hbx hg1
      have hgw : b < wr.heap.size := Nat.lt_of_lt_of_le hg1 hbx.size
      obtain ⟨c0, c1, c2, c3, c4⟩ := hr k t ht
      have hbs := hbx.size
      have HT2 : Hid ((ts.take (k + 1)).map pzOf = (ts.take k).map pzOf ++ [pzOf t]) := Lib.hid (by
        rw [List.take_add_one, ht, List.map_append]; rfl)
      have HHD : Hid (∀ W' : World, Below wr.heap.size wr W' → (fun W : World => W.cell? ⟨b, o + k * 5, none⟩ = some (.int .i64 t.k) ∧ W.cell? ⟨b, o + k * 5 + 1, none⟩ = some (.string t.tx) ∧ W.cell? ⟨b, o + k * 5 + 4, none⟩ = some (.bool t.sp)) W') := Lib.hid (fun W' h =>
        ⟨(h.cell (p := ⟨b, o + k * 5, none⟩) hgw).trans c0, (h.cell (p := ⟨b, o + k * 5 + 1, none⟩) hgw).trans c1, (h.cell (p := ⟨b, o + k * 5 + 4, none⟩) hgw).trans c4⟩)
      clear ht hr
      have j1 : (k : Int) < (n : Int) := by omega
      have j0 : (0 : Int) ≤ (k : Int) := by omega
      go_upto_region 5 with fail
      refine wp_region_held_drew (S := (fun W : World => W.cell? ⟨b, o + k * 5, none⟩ = some (.int .i64 t.k) ∧ W.cell? ⟨b, o + k * 5 + 1, none⟩ = some (.string t.tx) ∧ W.cell? ⟨b, o + k * 5 + 4, none⟩ = some (.bool t.sp))) (by kernel_rfl) (HHD.out _ (below_drewN (Below.refl _ _) 1)) (fun hS => ?_)
      refine take_op (i := 0) (d := 11) (v := u3) rfl rfl (by kernel_rfl) (by kernel_rfl) (by kernel_rfl) (fun _ _ _ h => h) (Or.inl ⟨by rfl, ?_⟩) hS ?_
      · rintro W ⟨x0, x1, x4⟩
        go_simp
      simp only [List.setIfInBounds_toArray, List.set_cons_zero, List.set_cons_succ]
      refine take_op (i := 1) (d := 12) (v := .slice (some ⟨b, o, none⟩) n cap) rfl rfl (by kernel_rfl) (by kernel_rfl) (by kernel_rfl) (fun _ _ _ h => h) (Or.inl ⟨by rfl, ?_⟩) hS ?_
      · rintro W ⟨x0, x1, x4⟩
        go_simp
      simp only [List.setIfInBounds_toArray, List.set_cons_zero, List.set_cons_succ]
      refine take_op (i := 2) (d := 13) (v := .int .i64 k) rfl rfl (by kernel_rfl) (by kernel_rfl) (by kernel_rfl) (fun _ _ _ h => h) (Or.inl ⟨by rfl, ?_⟩) hS ?_
      · rintro W ⟨x0, x1, x4⟩
        go_simp
      simp only [List.setIfInBounds_toArray, List.set_cons_zero, List.set_cons_succ]
      refine take_op (i := 3) (d := 14) (v := .pointer (some ⟨b, o + k * 5, none⟩)) rfl rfl (by kernel_rfl) (by kernel_rfl) (by kernel_rfl) (fun _ _ _ h => h) (Or.inl ⟨by rfl, ?_⟩) hS ?_
      · rintro W ⟨x0, x1, x4⟩
        go_simp
      simp only [List.setIfInBounds_toArray, List.set_cons_zero, List.set_cons_succ]
      refine take_op (i := 4) (d := 15) (v := .pointer (some ⟨b, o + k * 5, none⟩)) rfl rfl (by kernel_rfl) (by kernel_rfl) (by kernel_rfl) (fun _ _ _ h => h) (Or.inl ⟨by rfl, ?_⟩) hS ?_
      · rintro W ⟨x0, x1, x4⟩
        go_simp
      simp only [List.setIfInBounds_toArray, List.set_cons_zero, List.set_cons_succ]
      refine take_op (i := 5) (d := 16) (v := .int .i64 t.k) rfl rfl (by kernel_rfl) (by kernel_rfl) (by kernel_rfl) (fun _ _ _ h => h) (Or.inl ⟨by rfl, ?_⟩) hS ?_
      · rintro W ⟨x0, x1, x4⟩
        go_simp
      simp only [List.setIfInBounds_toArray, List.set_cons_zero, List.set_cons_succ]
      refine take_op (i := 6) (d := 17) (v := .slice (some ⟨b, o, none⟩) n cap) rfl rfl (by kernel_rfl) (by kernel_rfl) (by kernel_rfl) (fun _ _ _ h => h) (Or.inl ⟨by rfl, ?_⟩) hS ?_
      · rintro W ⟨x0, x1, x4⟩
        go_simp
      simp only [List.setIfInBounds_toArray, List.set_cons_zero, List.set_cons_succ]
      refine take_op (i := 7) (d := 18) (v := .int .i64 k) rfl rfl (by kernel_rfl) (by kernel_rfl) (by kernel_rfl) (fun _ _ _ h => h) (Or.inl ⟨by rfl, ?_⟩) hS ?_
      · rintro W ⟨x0, x1, x4⟩
        go_simp
      simp only [List.setIfInBounds_toArray, List.set_cons_zero, List.set_cons_succ]
      refine take_op (i := 8) (d := 19) (v := .pointer (some ⟨b, o + k * 5, none⟩)) rfl rfl (by kernel_rfl) (by kernel_rfl) (by kernel_rfl) (fun _ _ _ h => h) (Or.inl ⟨by rfl, ?_⟩) hS ?_
      · rintro W ⟨x0, x1, x4⟩
        go_simp
      simp only [List.setIfInBounds_toArray, List.set_cons_zero, List.set_cons_succ]
      refine take_op (i := 9) (d := 20) (v := .pointer (some ⟨b, o + k * 5 + 1, none⟩)) rfl rfl (by kernel_rfl) (by kernel_rfl) (by kernel_rfl) (fun _ _ _ h => h) (Or.inl ⟨by rfl, ?_⟩) hS ?_
      · rintro W ⟨x0, x1, x4⟩
        go_simp
      simp only [List.setIfInBounds_toArray, List.set_cons_zero, List.set_cons_succ]
      refine take_op (i := 10) (d := 21) (v := .string t.tx) rfl rfl (by kernel_rfl) (by kernel_rfl) (by kernel_rfl) (fun _ _ _ h => h) (Or.inl ⟨by rfl, ?_⟩) hS ?_
      · rintro W ⟨x0, x1, x4⟩
        go_simp
      simp only [List.setIfInBounds_toArray, List.set_cons_zero, List.set_cons_succ]
      refine take_op (i := 11) (d := 22) (v := .slice (some ⟨b, o, none⟩) n cap) rfl rfl (by kernel_rfl) (by kernel_rfl) (by kernel_rfl) (fun _ _ _ h => h) (Or.inl ⟨by rfl, ?_⟩) hS ?_
      · rintro W ⟨x0, x1, x4⟩
        go_simp
      simp only [List.setIfInBounds_toArray, List.set_cons_zero, List.set_cons_succ]
      refine take_op (i := 12) (d := 23) (v := .int .i64 k) rfl rfl (by kernel_rfl) (by kernel_rfl) (by kernel_rfl) (fun _ _ _ h => h) (Or.inl ⟨by rfl, ?_⟩) hS ?_
      · rintro W ⟨x0, x1, x4⟩
        go_simp
      simp only [List.setIfInBounds_toArray, List.set_cons_zero, List.set_cons_succ]
      refine take_op (i := 13) (d := 24) (v := .pointer (some ⟨b, o + k * 5, none⟩)) rfl rfl (by kernel_rfl) (by kernel_rfl) (by kernel_rfl) (fun _ _ _ h => h) (Or.inl ⟨by rfl, ?_⟩) hS ?_
      · rintro W ⟨x0, x1, x4⟩
        go_simp
      simp only [List.setIfInBounds_toArray, List.set_cons_zero, List.set_cons_succ]
      refine take_op (i := 14) (d := 25) (v := .pointer (some ⟨b, o + k * 5 + 4, none⟩)) rfl rfl (by kernel_rfl) (by kernel_rfl) (by kernel_rfl) (fun _ _ _ h => h) (Or.inl ⟨by rfl, ?_⟩) hS ?_
      · rintro W ⟨x0, x1, x4⟩
        go_simp
      simp only [List.setIfInBounds_toArray, List.set_cons_zero, List.set_cons_succ]
      refine take_op (i := 15) (d := 26) (v := .bool t.sp) rfl rfl (by kernel_rfl) (by kernel_rfl) (by kernel_rfl) (fun _ _ _ h => h) (Or.inl ⟨by rfl, ?_⟩) hS ?_
      · rintro W ⟨x0, x1, x4⟩
        go_simp
      simp only [List.setIfInBounds_toArray, List.set_cons_zero, List.set_cons_succ]
      refine take_op (i := 16) (d := 27) (v := .agg #[.int .i64 t.k, .string t.tx, .bool t.sp, .slice none 0 0]) rfl rfl (by kernel_rfl) (by kernel_rfl) (by kernel_rfl) (fun _ _ _ h => h) (Or.inl ⟨by rfl, ?_⟩) hS ?_
      · rintro W ⟨x0, x1, x4⟩
        go_simp
      simp only [List.setIfInBounds_toArray, List.set_cons_zero, List.set_cons_succ]
      refine wpAnyH_ready (rs := [17]) (by kernel_rfl) (by simp) ?_
      refine AllReadyH.cons rfl (fun K hK => ?_) AllReadyH.nil
      go_simp
      refine hK.out _ _ (HHD.out _ ((below_drewN (Below.refl _ _) 1).alloc (Nat.le_refl _) _)) (fun hS => ?_)
      clear hK K
      refine wpAnyH_ready (rs := [18]) (by kernel_rfl) (by simp) ?_
      refine AllReadyH.cons rfl (fun K hK => ?_) AllReadyH.nil
      rw [if_pos (by rfl)]
      have hrow2 : wr.drew.ownsRow w.heap.size 35 4 u3 k (pnCells ((ts.take k).map pzOf)) := hrow
      refine wp_append_own_wide _ _ _ 23 rfl w.heap.size 35 i0 (.agg #[.int .i64 0, .string ⟨#[]⟩, .bool false, .slice none 0 0]) 4 56 Tryz.underlying23 hi hz0 hz1 hz2 rfl (by decide) _ _ _ rfl (hrow2.alloc _) ⟨wr.heap.size, 0, none⟩ 1 1 (pnCell (pzOf t)) rfl rfl (cell4_new wr.drew _ _ _ _ _) (by simp [Value.oneCell', pnCell]) (by unfold maxLen; omega) (by omega) (by simp; omega) ?_
      intro v' w3 hown hgrow _
      have hL4 := hrow2.lt
      have hB3 : Below w.heap.size w w3 := ((below_drewN hbx 1).alloc (below_drewN hbx 1).size _).grown hgrow (by simp; omega) (fun j e => (hL4 j e).1)
      have hS4 : (fun W : World => W.cell? ⟨b, o + k * 5, none⟩ = some (.int .i64 t.k) ∧ W.cell? ⟨b, o + k * 5 + 1, none⟩ = some (.string t.tx) ∧ W.cell? ⟨b, o + k * 5 + 4, none⟩ = some (.bool t.sp)) w3 := by
        have h := (HT.out.below hB3) (by rw [HN.out]; omega)
        obtain ⟨b', o', e', _, hr'⟩ := h
        cases e'
        obtain ⟨t', ht'⟩ : ∃ t', ts[k]? = some t' := ⟨_, List.getElem?_eq_getElem (by rw [HN.out]; exact hlt)⟩
        have h0 := HHD.out wr (Below.refl _ _)
        have hb := hB3.cell (p := ⟨b, o + k * 5, none⟩) hg1
        have hb1 := hB3.cell (p := ⟨b, o + k * 5 + 1, none⟩) hg1
        have hb4 := hB3.cell (p := ⟨b, o + k * 5 + 4, none⟩) hg1
        have ha := hbx.cell (p := ⟨b, o + k * 5, none⟩) hg1
        have ha1 := hbx.cell (p := ⟨b, o + k * 5 + 1, none⟩) hg1
        have ha4 := hbx.cell (p := ⟨b, o + k * 5 + 4, none⟩) hg1
        exact ⟨hb.trans (ha.symm.trans h0.1), hb1.trans (ha1.symm.trans h0.2.1), hb4.trans (ha4.symm.trans h0.2.2)⟩
      refine hK.out _ _ hS4 (fun hS => ?_)
      clear hK K
      simp only [Act.put, List.setIfInBounds_toArray, List.set_cons_zero, List.set_cons_succ]
      refine take_op (i := 19) (d := 3) (v := v') rfl rfl (by kernel_rfl) (by kernel_rfl) (by kernel_rfl) (fun _ _ _ h => h) (Or.inl ⟨by rfl, ?_⟩) hS ?_
      · rintro W ⟨x0, x1, x4⟩
        go_simp
      simp only [List.setIfInBounds_toArray, List.set_cons_zero, List.set_cons_succ]
      refine wpAnyH_done (by kernel_rfl) ?_ _
      clear hS hS4
      go_wp2
      go_roundg (n - (k + 1))
      case rel =>
        refine ⟨k + 1, by omega, by go_num, rfl, ?_, hB3⟩
        rw [HT2.out, pnCells_snoc]
        exact hown
      case measure => omega
    · obtain rfl : k = n := by omega
      have HA : Hid (ts.take k = ts) := Lib.hid (List.take_of_length_le (by rw [HN.out]; exact Nat.le_refl _))
      rw [HA.out] at hrow
      go_wp2
      go_ret
      exact ⟨⟨_, rfl, hrow⟩, hbx⟩

set_option maxRecDepth 100000 in
set_option maxHeartbeats 4000000 in
theorem rSameTx_any (l r : List ByteArray) (n m c1 c2 : Nat) (a1 a2 : Option Addr) (w : World) (hn : l.length = n) (hm : r.length = m) (hn2 : n ≤ 140737488355328) (hm2 : m ≤ 140737488355328) (h1 : StrIn w a1 l) (h2 : StrIn w a2 r) :
    Calls Tryz.prog 23 #[.slice a1 n c1, .slice a2 m c2] w fun e w' => e = .returned (.bool (sameTx l r)) ∧ Below w.heap.size w w' := by
  by_cases hnm : n = m
  · subst hnm
    have HN := Lib.hid hn
    have HM := Lib.hid hm
    have H1 := Lib.hid h1
    have H2 := Lib.hid h2
    obtain ⟨R, hR⟩ : ∃ R, sameTx l r = R := ⟨_, rfl⟩
    have HR : Hid (R = sameTx (l.drop 0) (r.drop 0)) := Lib.hid hR.symm
    rw [hR]
    clear hn hm h1 h2 hR
    go_enter Tryz.func23, Tryz.ntmps23
    go_wp2
    go_loopw [5] (fun i wx => ∃ k : Nat, k ≤ n ∧ i = .int .i64 k ∧ Hid (R = sameTx (l.drop k) (r.drop k)) ∧ Below w.heap.size w wx) (fun i _ => n - (intOf i).toNat)
    case atStart => exact ⟨0, Nat.zero_le _, rfl, HR, Below.refl _ _⟩
    case round =>
      obtain ⟨k, hk, rfl, HK, hbx⟩ := hrel
      by_cases hlt : k < n
      · obtain ⟨s, hs⟩ : ∃ s, l[k]? = some s := ⟨_, List.getElem?_eq_getElem (by rw [HN.out]; exact hlt)⟩
        obtain ⟨t, ht⟩ : ∃ t, r[k]? = some t := ⟨_, List.getElem?_eq_getElem (by rw [HM.out]; exact hlt)⟩
        obtain ⟨b1, o1, rfl, hg1, hr1⟩ := H1.out (by rw [HN.out]; omega)
        obtain ⟨b2, o2, rfl, hg2, hr2⟩ := H2.out (by rw [HM.out]; omega)
        have c1' := (hr1.below hbx hg1) k s hs
        have c2' := (hr2.below hbx hg2) k t ht
        have hst := HK.out
        rw [sameTx_drop hs ht] at hst
        have HS := Lib.hid hst
        clear hs ht hr1 hr2 hst HK
        have j1 : (k : Int) < (n : Int) := by omega
        have j0 : (0 : Int) ≤ (k : Int) := by omega
        cases he : (s.toList == t.toList) with
        | true =>
          have hne : (!(s.toList == t.toList)) = false := by rw [he]; rfl
          have HK2 : Hid (R = sameTx (l.drop (k + 1)) (r.drop (k + 1))) := Lib.hid (by rw [HS.out, he]; rfl)
          clear HS
          go_wp2
          go_big_quiet (fail)
          go_wp2

          refine ⟨⟨k + 1, by omega, by go_num, HK2, below_drewN hbx _⟩, ?_⟩
          simp [intOf]; omega
        | false =>
          have hne : (!(s.toList == t.toList)) = true := by rw [he]; rfl
          have HK2 : Hid (R = false) := Lib.hid (by rw [HS.out, he]; rfl)
          clear HS
          go_wp2
          go_big_quiet (fail)
          go_wp2
          go_ret
          exact ⟨rb (by rw [HK2.out]), below_drewN hbx _⟩
      · have HK2 : Hid (R = true) := Lib.hid (by
          rw [HK.out, List.drop_eq_nil_of_le (by rw [HN.out]; omega), List.drop_eq_nil_of_le (by rw [HM.out]; omega)]; rfl)
        clear HK
        go_wp2
        go_ret
        exact ⟨rb (by rw [HK2.out]), hbx⟩
  · have he := sameTx_ne (l := l) (r := r) (by rw [hn, hm]; exact hnm)
    have hj : ((n : Int) != (m : Int)) = true := by simp; omega
    rw [he]
    clear hn hm h1 h2 he
    go_enter Tryz.func23, Tryz.ntmps23
    go_wp2
    go_ret
    exact ⟨rfl, Below.refl _ _⟩

end Go.Proofs.YtaodjipnffgihaaGreat
