/- macro.Of: macro tokens of tokens. -/
import Derived.Test.YtaodjipnffgihaaGreatMzH
import Derived.Test.YtaodjipnffgihaaGreatMcT
namespace Go.Proofs.YtaodjipnffgihaaGreat
open Go.RowKit Go.Shelf

set_option maxRecDepth 100000 in
set_option maxHeartbeats 4000000 in
theorem of_any (ts : List Tz) (n cap : Nat) (a : Option Addr) (w : World) (hn : ts.length = n) (hn2 : n * 48 ≤ 140737488355328) (hx : ∀ t ∈ ts, t.tx.size ≤ 281474976710656) (hT : TzIn w a ts) :
    Calls Tryz.prog 57 #[.slice a n cap] w fun e w' => (∃ v, e = .returned v ∧ w'.ownsRow w.heap.size 35 4 v n (pnCells (ts.map pzOf))) ∧ Below w.heap.size w w' := by
  obtain ⟨i0, hi, hz0, hz1, hz2⟩ := info_parts infoPz
  have HN := Lib.hid hn
  have HT := Lib.hid hT
  have HX := Lib.hid hx
  clear hn hT hx
  go_enter Tryz.func57, Tryz.ntmps57
  go_wp2
  go_loopg [3, 8] n (fun g v i wx => ∃ k : Nat, k ≤ n ∧ i = .int .i64 k ∧ g = n - k ∧ wx.ownsRow w.heap.size 35 4 v k (pnCells ((ts.take k).map pzOf)) ∧ Below w.heap.size w wx)
  case atStart => exact ⟨0, Nat.zero_le _, rfl, rfl, World.ownsRow_nil _ _ _ _, Below.refl _ _⟩
  case round =>
    obtain ⟨k, hk, rfl, rfl, hrow, hbx⟩ := hrel
    by_cases hlt : k < n
    · obtain ⟨t, ht⟩ : ∃ t, ts[k]? = some t := ⟨_, List.getElem?_eq_getElem (by rw [HN.out]; exact hlt)⟩
      obtain ⟨b, o, rfl, hg1, hr⟩ := HT.out (by rw [HN.out]; omega)
      have hr := hr.below hbx hg1
      obtain ⟨c0, c1, c2, c3, c4⟩ := hr k t ht
      have hX := HX.out t (List.mem_of_getElem? ht)
      have HC := fun w' => clone_any t.tx w' hX
      have hbs := hbx.size
      have HT2 : Hid ((ts.take (k + 1)).map pzOf = (ts.take k).map pzOf ++ [pzOf t]) := Lib.hid (by
        rw [List.take_add_one, ht, List.map_append]; rfl)
      have hlk : ((ts.take k).map pzOf).length = k := by rw [List.length_map, List.length_take, HN.out]; omega
      clear ht hr
      have j1 : (k : Int) < (n : Int) := by omega
      have j0 : (0 : Int) ≤ (k : Int) := by omega
      have hbT := hbx.alloc hbs (.cells #[.int .i64 t.k, .string t.tx, .int .i64 t.a, .int .i64 t.e, .bool t.sp] 83)
      have hS0 : (fun W : World => W.cell? ⟨wr.heap.size, 0, none⟩ = some (.int .i64 t.k) ∧ W.cell? ⟨wr.heap.size, 1, none⟩ = some (.string t.tx) ∧ W.cell? ⟨wr.heap.size, 4, none⟩ = some (.bool t.sp)) (wr.alloc (.cells #[.int .i64 t.k, .string t.tx, .int .i64 t.a, .int .i64 t.e, .bool t.sp] 83)) := by
        have hk1 := mcells (w := wr) (vs := #[.int .i64 t.k, .string t.tx, .int .i64 t.a, .int .i64 t.e, .bool t.sp]) (t := 83)
        exact ⟨hk1 0 _ rfl, hk1 1 _ rfl, hk1 4 _ rfl⟩
      have hHeld : ∀ W' : World, Below (wr.heap.size + 1) (wr.alloc (.cells #[.int .i64 t.k, .string t.tx, .int .i64 t.a, .int .i64 t.e, .bool t.sp] 83)) W' → (fun W : World => W.cell? ⟨wr.heap.size, 0, none⟩ = some (.int .i64 t.k) ∧ W.cell? ⟨wr.heap.size, 1, none⟩ = some (.string t.tx) ∧ W.cell? ⟨wr.heap.size, 4, none⟩ = some (.bool t.sp)) W' := fun W' h => by
        obtain ⟨h0, h1, h4⟩ := hS0
        exact ⟨(h.cell (p := ⟨wr.heap.size, 0, none⟩) (Nat.lt_succ_self _)).trans h0, (h.cell (p := ⟨wr.heap.size, 1, none⟩) (Nat.lt_succ_self _)).trans h1, (h.cell (p := ⟨wr.heap.size, 4, none⟩) (Nat.lt_succ_self _)).trans h4⟩
      have HS0 := Lib.hid hS0
      have HHD := Lib.hid hHeld
      clear hS0 hHeld
      go_upto_region 5 with fail
      refine wp_region_held_drew (S := (fun W : World => W.cell? ⟨wr.heap.size, 0, none⟩ = some (.int .i64 t.k) ∧ W.cell? ⟨wr.heap.size, 1, none⟩ = some (.string t.tx) ∧ W.cell? ⟨wr.heap.size, 4, none⟩ = some (.bool t.sp))) (by kernel_rfl) HS0.out (fun hS => ?_)
      refine take_op (i := 0) (d := 12) (v := u3) rfl rfl (by kernel_rfl) (by kernel_rfl) (by kernel_rfl) (fun _ _ _ h => h) (Or.inl ⟨by rfl, ?_⟩) hS ?_
      · rintro W ⟨x0, x1, x4⟩
        go_simp
      simp only [List.setIfInBounds_toArray, List.set_cons_zero, List.set_cons_succ]
      refine take_op (i := 1) (d := 13) (v := .pointer (some ⟨wr.heap.size, 0, none⟩)) rfl rfl (by kernel_rfl) (by kernel_rfl) (by kernel_rfl) (fun _ _ _ h => h) (Or.inl ⟨by rfl, ?_⟩) hS ?_
      · rintro W ⟨x0, x1, x4⟩
        go_simp
      simp only [List.setIfInBounds_toArray, List.set_cons_zero, List.set_cons_succ]
      refine take_op (i := 2) (d := 14) (v := .int .i64 t.k) rfl rfl (by kernel_rfl) (by kernel_rfl) (by kernel_rfl) (fun _ _ _ h => h) (Or.inl ⟨by rfl, ?_⟩) hS ?_
      · rintro W ⟨x0, x1, x4⟩
        go_simp
      simp only [List.setIfInBounds_toArray, List.set_cons_zero, List.set_cons_succ]
      refine take_op (i := 3) (d := 15) (v := .pointer (some ⟨wr.heap.size, 1, none⟩)) rfl rfl (by kernel_rfl) (by kernel_rfl) (by kernel_rfl) (fun _ _ _ h => h) (Or.inl ⟨by rfl, ?_⟩) hS ?_
      · rintro W ⟨x0, x1, x4⟩
        go_simp
      simp only [List.setIfInBounds_toArray, List.set_cons_zero, List.set_cons_succ]
      refine take_op (i := 4) (d := 16) (v := .string t.tx) rfl rfl (by kernel_rfl) (by kernel_rfl) (by kernel_rfl) (fun _ _ _ h => h) (Or.inl ⟨by rfl, ?_⟩) hS ?_
      · rintro W ⟨x0, x1, x4⟩
        go_simp
      simp only [List.setIfInBounds_toArray, List.set_cons_zero, List.set_cons_succ]
      refine take_op (i := 6) (d := 18) (v := .pointer (some ⟨wr.heap.size, 4, none⟩)) rfl rfl (by kernel_rfl) (by kernel_rfl) (by kernel_rfl) (fun _ _ _ h => h) (Or.inl ⟨by rfl, ?_⟩) hS ?_
      · rintro W ⟨x0, x1, x4⟩
        go_simp
      simp only [List.setIfInBounds_toArray, List.set_cons_zero, List.set_cons_succ]
      refine take_op (i := 7) (d := 19) (v := .bool t.sp) rfl rfl (by kernel_rfl) (by kernel_rfl) (by kernel_rfl) (fun _ _ _ h => h) (Or.inl ⟨by rfl, ?_⟩) hS ?_
      · rintro W ⟨x0, x1, x4⟩
        go_simp
      simp only [List.setIfInBounds_toArray, List.set_cons_zero, List.set_cons_succ]
      refine wpAnyH_ready (rs := [5]) (by kernel_rfl) (by simp) ?_
      refine AllReadyH.cons rfl (fun K hK => ?_) AllReadyH.nil
      go_simp
      refine (HC _).mono ?_
      rintro e w2 ⟨rfl, hb2⟩
      have hbw : Below wr.heap.size wr ((wr.alloc (.cells #[.int .i64 t.k, .string t.tx, .int .i64 t.a, .int .i64 t.e, .bool t.sp] 83)).drew) := below_drewN (below1 wr _) 1
      have hb2w := hbw.trans (hb2.mono hbw.size)
      have hs2 : wr.heap.size + 1 ≤ w2.heap.size := by have := hb2.size; simpa using this
      have hB2 := hbx.trans (hb2w.mono hbx.size)
      have hHd2 : Below (wr.heap.size + 1) (wr.alloc (.cells #[.int .i64 t.k, .string t.tx, .int .i64 t.a, .int .i64 t.e, .bool t.sp] 83)) w2 := by
        have h := (below_drewN (Below.refl (wr.heap.size + 1) (wr.alloc (.cells #[.int .i64 t.k, .string t.tx, .int .i64 t.a, .int .i64 t.e, .bool t.sp] 83))) 1).trans (hb2.mono (by simp))
        exact h
      go_wp2_with fail
      refine hK.out _ _ (HHD.out _ hHd2) (fun hS => ?_)
      clear hK K
      refine take_op (i := 8) (d := 20) (v := .agg #[.int .i64 t.k, .string t.tx, .bool t.sp, .slice none 0 0]) rfl rfl (by kernel_rfl) (by kernel_rfl) (by kernel_rfl) (fun _ _ _ h => h) (Or.inl ⟨by rfl, ?_⟩) hS ?_
      · rintro W ⟨x0, x1, x4⟩
        go_simp
      simp only [List.setIfInBounds_toArray, List.set_cons_zero, List.set_cons_succ]
      refine wpAnyH_ready (rs := [9]) (by kernel_rfl) (by simp) ?_
      refine AllReadyH.cons rfl (fun K hK => ?_) AllReadyH.nil
      go_simp
      refine hK.out _ _ (HHD.out _ (hHd2.alloc hs2 _)) (fun hS => ?_)
      clear hK K
      refine wpAnyH_ready (rs := [10]) (by kernel_rfl) (by simp) ?_
      refine AllReadyH.cons rfl (fun K hK => ?_) AllReadyH.nil
      rw [if_pos (by rfl)]
      have hrow2 := row_below hrow hb2w
      refine wp_append_own_wide _ _ _ 23 rfl w.heap.size 35 i0 (.agg #[.int .i64 0, .string ⟨#[]⟩, .bool false, .slice none 0 0]) 4 56 Tryz.underlying23 hi hz0 hz1 hz2 rfl (by decide) _ _ _ rfl (hrow2.alloc _) ⟨w2.heap.size, 0, none⟩ 1 1 (pnCell (pzOf t)) rfl rfl (cell4_new _ _ _ _ _ _) (by simp [Value.oneCell', pnCell]) (by unfold maxLen; omega) (by omega) (by simp; omega) ?_
      intro v' w3 hown hgrow _
      have hL4 := hrow2.lt
      have hB3 : Below w.heap.size w w3 := (hB2.alloc hB2.size _).grown hgrow (by simp; omega) (fun j e => (hL4 j e).1)
      have hS3 := HHD.out _ (hHd2.alloc hs2 (.cells #[.int .i64 t.k, .string t.tx, .bool t.sp, .slice none 0 0] 35))
      have hblk : w3.heap[wr.heap.size]? = (w2.alloc (.cells #[.int .i64 t.k, .string t.tx, .bool t.sp, .slice none 0 0] 35)).heap[wr.heap.size]? := hgrow.block _ (by simp; omega) (fun e => by
        have := (hrow.lt _ e.symm).2
        omega)
      have hS4 : (fun W : World => W.cell? ⟨wr.heap.size, 0, none⟩ = some (.int .i64 t.k) ∧ W.cell? ⟨wr.heap.size, 1, none⟩ = some (.string t.tx) ∧ W.cell? ⟨wr.heap.size, 4, none⟩ = some (.bool t.sp)) w3 :=
        ⟨(World.cell?_of_block (a := ⟨wr.heap.size, 0, none⟩) hblk).trans hS3.1, (World.cell?_of_block (a := ⟨wr.heap.size, 1, none⟩) hblk).trans hS3.2.1, (World.cell?_of_block (a := ⟨wr.heap.size, 4, none⟩) hblk).trans hS3.2.2⟩
      refine hK.out _ _ hS4 (fun hS => ?_)
      clear hK K
      simp only [Act.put, List.setIfInBounds_toArray, List.set_cons_zero, List.set_cons_succ]
      refine take_op (i := 11) (d := 3) (v := v') rfl rfl (by kernel_rfl) (by kernel_rfl) (by kernel_rfl) (fun _ _ _ h => h) (Or.inl ⟨by rfl, ?_⟩) hS ?_
      · rintro W ⟨x0, x1, x4⟩
        go_simp
      simp only [List.setIfInBounds_toArray, List.set_cons_zero, List.set_cons_succ]
      refine wpAnyH_done (by kernel_rfl) ?_ _
      clear hS
      go_wp2
      go_roundg (n - (k + 1))
      case rel =>
        refine ⟨k + 1, by omega, by go_num, rfl, ?_, hB3⟩
        rw [HT2.out, pnCells_snoc]
        exact hown
      case measure => omega
    · obtain rfl : k = n := by omega
      have HA : Hid (ts.take k = ts) := Lib.hid (List.take_of_length_le (by rw [HN.out]; exact Nat.le_refl _))
      rw [HA.out] at hrow
      go_wp2
      go_ret
      exact ⟨⟨_, rfl, hrow⟩, hbx⟩

end Go.Proofs.YtaodjipnffgihaaGreat
