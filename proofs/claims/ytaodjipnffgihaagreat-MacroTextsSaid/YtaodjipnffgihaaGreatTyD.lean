/- Macro tokens in memory of their own. -/
import Derived.Test.YtaodjipnffgihaaGreatMcL
import Derived.Test.YtaodjipnffgihaaGreatMcZ
import Derived.Test.YtaodjipnffgihaaGreatMzJ
namespace Go.Proofs.YtaodjipnffgihaaGreat
open Go.RowKit

def pzVals : List Pz → List Value → List Value
  | [], _ => []
  | _, [] => []
  | r :: rs, v :: vs => [.int .i64 r.k, .string r.tx, .bool r.sp, v] ++ pzVals rs vs
theorem pzVals_snoc : ∀ (rs : List Pz) (vs : List Value) (r : Pz) (v : Value), rs.length = vs.length → pzVals (rs ++ [r]) (vs ++ [v]) = pzVals rs vs ++ [.int .i64 r.k, .string r.tx, .bool r.sp, v]
  | [], [], r, v, _ => rfl
  | q :: rs, u :: vs, r, v, h => by
    simp only [List.length_cons, Nat.add_right_cancel_iff] at h
    rw [List.cons_append, List.cons_append, pzVals, pzVals, pzVals_snoc rs vs r v h]
    rfl
structure OwnPz (W : World) (B : Nat) (v : Value) (rs : List Pz) (vs : List Value) : Prop where
  len : rs.length = vs.length
  row : W.ownsRow B 35 4 v rs.length (pzVals rs vs)
  ts : ∀ (i : Nat) (r : Pz) (u : Value), rs[i]? = some r → vs[i]? = some u → W.ownsRow B 9 1 u r.ps.length (stV r.ps)
theorem OwnPz.nil (W : World) (B : Nat) : OwnPz W B (.slice none 0 0) [] [] := ⟨rfl, World.ownsRow_nil _ _ _ _, fun i r u h _ => by simp at h⟩
theorem OwnPz.below {W W' : World} {B : Nat} {v : Value} {rs : List Pz} {vs : List Value} (h : OwnPz W B v rs vs) (hb : Below W.heap.size W W') : OwnPz W' B v rs vs :=
  ⟨h.len, row_below h.row hb, fun i r u h1 h2 => row_below (h.ts i r u h1 h2) hb⟩
theorem infoSt : (Tryz.prog.info? 9).map (fun i => (i.zero, i.size, i.bytes)) = some (some (.string ⟨#[]⟩), 1, 16) := by kernel_rfl

set_option maxRecDepth 100000 in
set_option maxHeartbeats 2000000 in
theorem twinP_any (n cap : Nat) (a : Option Addr) (w : World) (hn2 : n * 56 ≤ 140737488355328) (rs : List Pz) (hn : rs.length = n) (hts : ∀ r ∈ rs, r.ps.length * 16 ≤ 140737488355328)
    (hT : 0 < n → ∃ b o, a = some ⟨b, o, none⟩ ∧ b < w.heap.size ∧ PzAt w b o rs) :
    Calls Tryz.prog 10 #[.slice a n cap] w fun e w' => (∃ v vs, e = .returned v ∧ OwnPz w' w.heap.size v rs vs) ∧ Below w.heap.size w w' := by
  obtain ⟨i0, hi, hz0, hz1, hz2⟩ := info_parts infoSt
  obtain ⟨j0, hj, hy0, hy1, hy2⟩ := info_parts infoPz
  have HN := Lib.hid hn
  have HT := Lib.hid hT
  have HS := Lib.hid hts
  clear hn hT hts
  go_enter Tryz.func10, Tryz.ntmps10
  go_wp2
  go_loopg [3, 4] n (fun g v i wx => ∃ (k : Nat) (vs : List Value), k ≤ n ∧ i = .int .i64 k ∧ g = n - k ∧ OwnPz wx w.heap.size v (rs.take k) vs ∧ Below w.heap.size w wx)
  case atStart => exact ⟨0, [], Nat.zero_le _, rfl, rfl, OwnPz.nil _ _, Below.refl _ _⟩
  case round =>
    obtain ⟨k, vs, hk, rfl, rfl, hown, hbx⟩ := hrel
    by_cases hlt : k < n
    · obtain ⟨r, hr⟩ : ∃ r, rs[k]? = some r := ⟨_, List.getElem?_eq_getElem (by rw [HN.out]; exact hlt)⟩
      obtain ⟨b, o, rfl, hg1, hrz⟩ := HT.out (by omega)
      obtain ⟨c0, c1, c9, ta, tcap, c2, htk, -⟩ := (hrz.below hbx hg1) k r hr
      have hrl := HS.out r (List.mem_of_getElem? hr)
      have j1 : (k : Int) < (n : Int) := by omega
      have j2 : (0 : Int) ≤ (k : Int) := by omega
      have htake : rs.take (k + 1) = rs.take k ++ [r] := by rw [List.take_add_one, hr]; rfl
      have hkl : (rs.take k).length = k := by rw [List.length_take, HN.out]; omega
      go_wp2
      have hW1 : Below w.heap.size w (wr.alloc (.cells #[.int .i64 r.k, .string r.tx, .bool r.sp, .slice none 0 0] 35)) := hbx.alloc hbx.size _
      have hk1 := mcells (w := wr) (vs := #[.int .i64 r.k, .string r.tx, .bool r.sp, .slice none 0 0]) (t := 35)
      have d2 := hk1 3 _ rfl
      have e2 : (wr.alloc (.cells #[.int .i64 r.k, .string r.tx, .bool r.sp, .slice none 0 0] 35)).cell? ⟨b, o + k * 4 + 3, none⟩ = some (.slice ta r.ps.length tcap) := ((below1 wr _).cell (p := ⟨b, o + k * 4 + 3, none⟩) (Nat.lt_of_lt_of_le hg1 hbx.size)).trans c2
      have hblk := World.alloc_heap_new wr (.cells #[.int .i64 r.k, .string r.tx, .bool r.sp, .slice none 0 0] 35)
      have hsz : (wr.alloc (.cells #[.int .i64 r.k, .string r.tx, .bool r.sp, .slice none 0 0] 35)).heap.size = wr.heap.size + 1 := by simp
      have hbw : Below wr.heap.size wr (wr.alloc (.cells #[.int .i64 r.k, .string r.tx, .bool r.sp, .slice none 0 0] 35)) := below1 wr _
      clear hk1 c0 c1 c9 c2
      generalize wr.alloc (.cells #[.int .i64 r.k, .string r.tx, .bool r.sp, .slice none 0 0] 35) = W1 at *
      have f2 : ({ heap := W1.heap, tape := W1.tape, drawn := W1.drawn + 1, os := W1.os, output := W1.output } : World).cell? ⟨b, o + k * 4 + 3, none⟩ = some (.slice ta r.ps.length tcap) := e2
      have g2 : ({ heap := W1.heap, tape := W1.tape, drawn := W1.drawn + 1, os := W1.os, output := W1.output } : World).cell? ⟨wr.heap.size, 3, none⟩ = some (.slice none 0 0) := d2
      go_still_tail 7, (by kernel_rfl)
      clear f2 g2 e2 d2
      change wpList _ _ _ _ _ W1.drew
      have hblk2 : W1.drew.heap[wr.heap.size]? = some (.cells #[.int .i64 r.k, .string r.tx, .bool r.sp, .slice none 0 0] 35 (0, 0)) := hblk
      have hsz2 : W1.drew.heap.size = wr.heap.size + 1 := hsz
      have hW2 : Below w.heap.size w W1.drew := below_drewN hW1 1
      have hbw2 : Below wr.heap.size wr W1.drew := below_drewN hbw 1
      have htk2 : StrIn W1.drew ta r.ps := htk.below hbw2
      clear hblk hsz hW1 hbw htk
      generalize W1.drew = W2 at *
      have hnil : W2.ownsRow w.heap.size 9 1 (.slice none 0 0) 0 [] := World.ownsRow_nil _ _ _ _
      have hs2 : w.heap.size ≤ W2.heap.size := hW2.size
      cases ta with
      | none =>
        have hr0 : r.ps = [] := by
          cases hrt : r.ps with
          | nil => rfl
          | cons t l =>
            obtain ⟨_, _, e, _⟩ := htk2 (by rw [hrt]; simp)
            cases e
        have hr0l : r.ps.length = 0 := by rw [hr0]; rfl
        rw [hr0l]
        have q0 : W2.cell? ⟨wr.heap.size, 0, none⟩ = some (.int .i64 r.k) := by rw [Lib.cell_of_heap hblk2]; rfl
        have q1 : W2.cell? ⟨wr.heap.size, 1, none⟩ = some (.string r.tx) := by rw [Lib.cell_of_heap hblk2]; rfl
        have q3 : W2.cell? ⟨wr.heap.size, 2, none⟩ = some (.bool r.sp) := by rw [Lib.cell_of_heap hblk2]; rfl
        have q2 : W2.cell? ⟨wr.heap.size, 3, none⟩ = some (.slice none 0 0) := by rw [Lib.cell_of_heap hblk2]; rfl
        have qf : W2.frozen? ⟨wr.heap.size, 3, none⟩ = false := by simp [World.frozen?, hblk2]
        have hk3 : KeepsT 9 W2 (W2.setCell ⟨wr.heap.size, 3, none⟩ (.slice none 0 0)) := keepsT_other hblk2 (by decide) (.slice none 0 0)
        have hb4 : Below wr.heap.size wr (W2.setCell ⟨wr.heap.size, 3, none⟩ (.slice none 0 0)) := hbw2.setCell (Nat.le_refl _) (.slice none 0 0)
        have hB4 : Below w.heap.size w (W2.setCell ⟨wr.heap.size, 3, none⟩ (.slice none 0 0)) := hW2.setCell hbx.size (.slice none 0 0)
        have hown4 := hown.below hb4
        have hs4 : w.heap.size ≤ (W2.setCell ⟨wr.heap.size, 3, none⟩ (.slice none 0 0)).heap.size := hB4.size
        have hsz4 : (W2.setCell ⟨wr.heap.size, 3, none⟩ (.slice none 0 0)).heap.size = W2.heap.size := by simp [World.setCell]
        have hnew5 : ∀ j u, [Value.int .i64 r.k, .string r.tx, .bool r.sp, .slice none 0 0][j]? = some u → ((W2.setCell ⟨wr.heap.size, 3, none⟩ (.slice none 0 0)).alloc (.cells #[.int .i64 r.k, .string r.tx, .bool r.sp, .slice none 0 0] 35)).cell? ((⟨W2.heap.size, 0, none⟩ : Addr).add j) = some u := by rw [← hsz4]; exact cell4_new _ _ _ _ _ _
        have hsz2a : wr.heap.size + 1 ≤ W2.heap.size := by rw [hsz2]; exact Nat.le_refl _
        clear hsz2
        go_wp2_with (at_builtin; (refine wpList_append_own _ rfl _ _ 23 rfl w.heap.size 35 j0 (.agg #[.int .i64 0, .string ⟨#[]⟩, .bool false, .slice none 0 0]) 4 56 Tryz.underlying23 hj hy0 hy1 hy2 rfl (by decide) _ _ _ rfl (hown4.row.alloc _) ⟨W2.heap.size, 0, none⟩ 1 1 [.int .i64 r.k, .string r.tx, .bool r.sp, (.slice none 0 0)] rfl rfl hnew5 (by intro u hu; simp only [List.mem_cons, List.not_mem_nil, or_false] at hu; rcases hu with rfl | rfl | rfl | rfl <;> rfl) (by rw [hkl]; unfold maxLen; omega) (by rw [hkl]; omega) (by simp; omega) ?_; intro v2 w5 hown5 hgrow5 hn5; clear hn5; have hB5 := (hB4.alloc hs4 _).grown hgrow5 (by simp; omega) (fun j e => (hown4.row.lt j e).1)))
        go_roundg (n - (k + 1))
        case rel =>
          refine ⟨k + 1, vs ++ [(.slice none 0 0)], by omega, by go_num, rfl, ?_, hB5⟩
          rw [htake]
          have hK5 : KeepsT 9 (W2.setCell ⟨wr.heap.size, 3, none⟩ (.slice none 0 0)) w5 := (KeepsT.alloc _ _ _).trans (KeepsT.grown_row hgrow5 (hown4.row.alloc _) (by decide))
          refine ⟨by simp [hown.len], ?_, fun i q u h1 h2 => ?_⟩
          · rw [List.length_append, pzVals_snoc _ _ _ _ hown.len]
            exact hown5
          · by_cases hik : i < k
            · rw [List.getElem?_append_left (by omega)] at h1
              rw [List.getElem?_append_left (by have := hown.len; omega)] at h2
              exact ownsRow_keepsT (hown4.ts i q u h1 h2) hK5
            · have hlt1 := (List.getElem?_eq_some_iff.1 h1).1
              rw [List.length_append, hkl] at hlt1
              simp only [List.length_cons, List.length_nil] at hlt1
              obtain rfl : i = k := by omega
              rw [List.getElem?_append_right (by omega), hkl, Nat.sub_self] at h1
              rw [List.getElem?_append_right (by have := hown.len; omega), ← hown.len, hkl, Nat.sub_self] at h2
              simp only [List.getElem?_cons_zero, Option.some.injEq] at h1 h2
              subst h1 h2
              rw [hr0]; exact World.ownsRow_nil _ _ _ _
        case measure => omega
      | some ad =>
        have hnews : ∀ j u, (stV r.ps)[j]? = some u → W2.cell? (ad.add j) = some u := by
          intro j u hj
          have hl := (List.getElem?_eq_some_iff.1 hj).1
          rw [stV_len] at hl
          obtain ⟨b', o', e, _, hta⟩ := htk2 (by omega)
          cases e
          obtain ⟨sj, hsj⟩ : ∃ sj, r.ps[j]? = some sj := ⟨_, List.getElem?_eq_getElem hl⟩
          rw [stV_get hsj, Option.some.injEq] at hj
          subst hj
          rw [Addr.add_lit]
          exact hta j sj hsj
        go_wp2_with (at_builtin; first
          | (refine wpList_append_own _ rfl _ _ 22 rfl w.heap.size 9 i0 (.string ⟨#[]⟩) 1 16 Tryz.underlying22 hi hz0 hz1 hz2 rfl (by decide) _ _ _ rfl hnil ad r.ps.length tcap (stV r.ps) rfl (by rw [stV_len, Nat.mul_one]) hnews (stV_one r.ps) (by unfold maxLen; omega) (by omega) hs2 ?_; intro v1 w3 hown1 hgrow1 hn1; clear hn1; rw [Nat.zero_add, List.nil_append] at hown1; obtain ⟨a1, cap1, rfl⟩ := row_shape hown1
             have hB3 : Below w.heap.size w w3 := hW2.grown hgrow1 hW2.size (fun j e => (hnil.lt j e).1)
             have hb3 : Below wr.heap.size wr w3 := hbw2.grown hgrow1 (by rw [hsz2]; omega) (fun j e => by cases e)
             have hblk3 : w3.heap[wr.heap.size]? = some (.cells #[.int .i64 r.k, .string r.tx, .bool r.sp, .slice none 0 0] 35 (0, 0)) := (hgrow1.block _ (by rw [hsz2]; omega) (fun e => by cases e)).trans hblk2
             have hsz3 : wr.heap.size + 1 ≤ w3.heap.size := by have := hgrow1.size; omega
             have q0 : w3.cell? ⟨wr.heap.size, 0, none⟩ = some (.int .i64 r.k) := by rw [Lib.cell_of_heap hblk3]; rfl
             have q1 : w3.cell? ⟨wr.heap.size, 1, none⟩ = some (.string r.tx) := by rw [Lib.cell_of_heap hblk3]; rfl
             have q3 : w3.cell? ⟨wr.heap.size, 2, none⟩ = some (.bool r.sp) := by rw [Lib.cell_of_heap hblk3]; rfl
             have q2 : w3.cell? ⟨wr.heap.size, 3, none⟩ = some (.slice none 0 0) := by rw [Lib.cell_of_heap hblk3]; rfl
             have qf : w3.frozen? ⟨wr.heap.size, 3, none⟩ = false := by simp [World.frozen?, hblk3]
             have hk3 : KeepsT 9 w3 (w3.setCell ⟨wr.heap.size, 3, none⟩ (.slice a1 r.ps.length cap1)) := keepsT_other hblk3 (by decide) (.slice a1 r.ps.length cap1)
             have hown3 := ownsRow_keepsT hown1 hk3
             have hb4 : Below wr.heap.size wr (w3.setCell ⟨wr.heap.size, 3, none⟩ (.slice a1 r.ps.length cap1)) := hb3.setCell (Nat.le_refl _) (.slice a1 r.ps.length cap1)
             have hB4 : Below w.heap.size w (w3.setCell ⟨wr.heap.size, 3, none⟩ (.slice a1 r.ps.length cap1)) := hB3.setCell hbx.size (.slice a1 r.ps.length cap1)
             have hown4 := hown.below hb4
             have hs4 : w.heap.size ≤ (w3.setCell ⟨wr.heap.size, 3, none⟩ (.slice a1 r.ps.length cap1)).heap.size := hB4.size
             have hsz4 : (w3.setCell ⟨wr.heap.size, 3, none⟩ (.slice a1 r.ps.length cap1)).heap.size = w3.heap.size := by simp [World.setCell]
             have hnew5 : ∀ j u, [Value.int .i64 r.k, .string r.tx, .bool r.sp, .slice a1 r.ps.length cap1][j]? = some u → ((w3.setCell ⟨wr.heap.size, 3, none⟩ (.slice a1 r.ps.length cap1)).alloc (.cells #[.int .i64 r.k, .string r.tx, .bool r.sp, .slice a1 r.ps.length cap1] 35)).cell? ((⟨w3.heap.size, 0, none⟩ : Addr).add j) = some u := by rw [← hsz4]; exact cell4_new _ _ _ _ _ _)
          | (refine wpList_append_own _ rfl _ _ 23 rfl w.heap.size 35 j0 (.agg #[.int .i64 0, .string ⟨#[]⟩, .bool false, .slice none 0 0]) 4 56 Tryz.underlying23 hj hy0 hy1 hy2 rfl (by decide) _ _ _ rfl (hown4.row.alloc _) ⟨w3.heap.size, 0, none⟩ 1 1 [.int .i64 r.k, .string r.tx, .bool r.sp, (.slice a1 r.ps.length cap1)] rfl rfl hnew5 (by intro u hu; simp only [List.mem_cons, List.not_mem_nil, or_false] at hu; rcases hu with rfl | rfl | rfl | rfl <;> rfl) (by rw [hkl]; unfold maxLen; omega) (by rw [hkl]; omega) (by simp; omega) ?_; intro v2 w5 hown5 hgrow5 hn5; clear hn5; have hB5 := (hB4.alloc hs4 _).grown hgrow5 (by simp; omega) (fun j e => (hown4.row.lt j e).1)))
        go_roundg (n - (k + 1))
        case rel =>
          refine ⟨k + 1, vs ++ [(.slice a1 r.ps.length cap1)], by omega, by go_num, rfl, ?_, hB5⟩
          rw [htake]
          have hK5 : KeepsT 9 (w3.setCell ⟨wr.heap.size, 3, none⟩ (.slice a1 r.ps.length cap1)) w5 := (KeepsT.alloc _ _ _).trans (KeepsT.grown_row hgrow5 (hown4.row.alloc _) (by decide))
          refine ⟨by simp [hown.len], ?_, fun i q u h1 h2 => ?_⟩
          · rw [List.length_append, pzVals_snoc _ _ _ _ hown.len]
            exact hown5
          · by_cases hik : i < k
            · rw [List.getElem?_append_left (by omega)] at h1
              rw [List.getElem?_append_left (by have := hown.len; omega)] at h2
              exact ownsRow_keepsT (hown4.ts i q u h1 h2) hK5
            · have hlt1 := (List.getElem?_eq_some_iff.1 h1).1
              rw [List.length_append, hkl] at hlt1
              simp only [List.length_cons, List.length_nil] at hlt1
              obtain rfl : i = k := by omega
              rw [List.getElem?_append_right (by omega), hkl, Nat.sub_self] at h1
              rw [List.getElem?_append_right (by have := hown.len; omega), ← hown.len, hkl, Nat.sub_self] at h2
              simp only [List.getElem?_cons_zero, Option.some.injEq] at h1 h2
              subst h1 h2
              exact ownsRow_keepsT hown3 hK5
        case measure => omega
    · obtain rfl : k = n := by omega
      go_wp2
      go_ret
      rw [List.take_of_length_le (by rw [HN.out]; exact Nat.le_refl _)] at hown
      exact ⟨⟨_, vs, rfl, hown⟩, hbx⟩

end Go.Proofs.YtaodjipnffgihaaGreat
