/- The rows of a list of tokens: the document's answer, its walk. -/
import Derived.Test.YtaodjipnffgihaaGreatMzJ
import Derived.IntWalk
import Derived.Deep.LoopGhost
import Derived.Deep.DeepCutAuto
import Derived.Outline
namespace Go.Proofs.YtaodjipnffgihaaGreat
open Go.RowKit

/-- The row that a line becomes. -/
theorem rowOf_eq (l : List Tz) (bs : List Tz) (h : (bareS l).1 = bs) : rowOf l = ⟨hashB bs, if hashB bs then nameB bs else ⟨#[]⟩, l⟩ := by unfold rowOf; rw [h]
theorem nameB_short {bs : List Tz} (h : ¬ 1 < bs.length) : nameB bs = ⟨#[]⟩ := by
  match bs, h with
  | [], _ => rfl
  | [_], _ => rfl
  | _ :: _ :: _, h => simp at h
theorem snoc_or {α : Type} (l : List α) : l = [] ∨ ∃ o q, l = o ++ [q] := by
  rcases List.eq_nil_or_concat l with h | ⟨o, q, h⟩
  · exact .inl h
  · exact .inr ⟨o, q, by rw [h, List.concat_eq_append]⟩
theorem tzCells_append (a b : List Tz) : tzCells (a ++ b) = tzCells a ++ tzCells b := by simp [tzCells]
theorem box_set {w : World} {g : Nat} {a b c u : Value} {t : TypeId} (h : w.heap[g]? = some (.cells #[a, b, c] t)) :
    (w.setCell ⟨g, 1, none⟩ u).cell? ⟨g, 0, none⟩ = some a ∧ (w.setCell ⟨g, 1, none⟩ u).cell? ⟨g, 1, none⟩ = some u ∧ (w.setCell ⟨g, 1, none⟩ u).cell? ⟨g, 2, none⟩ = some c := by
  have h2 := heap_setCell_same w g 1 #[a, b, c] t u h
  refine ⟨?_, ?_, ?_⟩ <;> (unfold World.cell?; rw [h2]; rfl)
theorem box_free {w : World} {g : Nat} {a b c : Value} {t : TypeId} (h : w.heap[g]? = some (.cells #[a, b, c] t)) : w.frozen? ⟨g, 1, none⟩ = false := by
  unfold World.frozen?; rw [h]; rfl
theorem nameB_two {bs : List Tz} {u : Tz} (h : bs[1]? = some u) : nameB bs = if u.k == 1 then u.tx else ⟨#[]⟩ := by
  match bs, h with
  | [], h => simp at h
  | [_], h => simp at h
  | _ :: v :: _, h => simp at h; subst h; rfl

set_option maxRecDepth 100000 in
set_option maxHeartbeats 16000000 in
theorem rRows_any (n cap : Nat) (a : Option Addr) (w : World) (hn2 : n * 48 ≤ 140737488355328) (ts : List Tz) (hn : ts.length = n) (hT : TzIn w a ts) :
    Calls Tryz.prog 17 #[.slice a n cap] w fun e w' => (∃ v vs, e = .returned v ∧ SepRz w' w.heap.size v (rowsS ts) vs (.slice none 0 0) []) ∧ Below w.heap.size w w' := by
  obtain ⟨i0, hi, hz0, hz1, hz2⟩ := info_parts infoTz
  obtain ⟨j0, hj, hy0, hy1, hy2⟩ := info_parts infoRow
  have ET : ElemOk Tryz.prog 44 83 i0 (.agg #[.int .i64 0, .string ⟨#[]⟩, .int .i64 0, .int .i64 0, .bool false]) 5 48 := ⟨Tryz.underlying44, hi, hz0, hz1, hz2, rfl, by decide⟩
  have HN := Lib.hid hn
  have HT := Lib.hid hT
  clear hn hT hi hz0 hz1 hz2
  go_enter Tryz.func17, Tryz.ntmps17
  go_wp2
  go_loopg [3, 4, 5] n (fun g out lv i wx => ∃ (k : Nat) (rs : List Rz) (vs : List Value) (line : List Tz), k ≤ n ∧ i = .int .i64 k ∧ g = n - k ∧ Hid (RowsAt ts k rs line) ∧ rs.length ≤ k ∧ line.length ≤ k ∧ toksN rs + line.length ≤ k ∧ SepRz wx w.heap.size out rs vs lv line ∧ Below w.heap.size w wx)
  case atStart => exact ⟨0, [], [], [], Nat.zero_le _, rfl, rfl, Lib.hid (RowsAt.start ts), Nat.le_refl _, Nat.le_refl _, Nat.le_refl _, SepRz.start _ _, Below.refl _ _⟩
  case round =>
    obtain ⟨k, rs, vs, line, hk, rfl, rfl, HR, hrl, hll, htn, hS, hbx⟩ := hrel
    by_cases hlt : k < n
    · obtain ⟨oa, ocap, rfl⟩ := row_shape hS.own.row
      obtain ⟨t, ht⟩ : ∃ t, ts[k]? = some t := ⟨_, List.getElem?_eq_getElem (by rw [HN.out]; exact hlt)⟩
      obtain ⟨b, o, rfl, hg1, htz⟩ := HT.out (by rw [HN.out]; omega)
      have htzx := htz.below hbx hg1
      obtain ⟨c0, c1, c2, c3, c4⟩ := htzx k t ht
      have hbs := hbx.size
      have j1 : (k : Int) < (n : Int) := by omega
      have j2 : (0 : Int) ≤ (k : Int) := by omega
      have v1 : wrap64 ((n : Int) - 1) = (n : Int) - 1 := IntWalk.wrap64_in _ (by omega)
      have hc0 : ∀ W : World, Below w.heap.size wr W → W.cell? ⟨b, o + k * 5, none⟩ = some (.int .i64 t.k) := fun W hW => (hW.cell (p := ⟨b, o + k * 5, none⟩) hg1).trans c0
      have HC0 := Lib.hid hc0
      clear htz htzx hc0
      by_cases hgo : ¬ (t.k == 9) = true ∧ k + 1 < n
      · have HR2 := Lib.hid (HR.out.more ht (Bool.eq_false_iff.2 hgo.1) (by rw [HN.out]; exact hgo.2))
        have k9 : (t.k != 9) = true := by
          have := hgo.1
          simpa using this
        have k9b : (t.k == 9) = false := Bool.eq_false_iff.2 hgo.1
        have k8 : (k : Int) < (n : Int) - 1 := by omega
        clear HR ht hgo
        go_wp2_with (first | (at_builtin; refine wpList_fresh ET _ rfl _ _ rfl w.heap.size _ line.length (tzCells line) rfl (hS.line.alloc _) ⟨wr.heap.size, 0, none⟩ 1 1 [.int .i64 t.k, .string t.tx, .int .i64 t.a, .int .i64 t.e, .bool t.sp] rfl rfl (cell5_new _ _ _ _ _ _ _) (by simp [Value.oneCell']) (by unfold maxLen; omega) (by omega) (by simp; omega) ?_; intro v2 w2 hL2 hg2 hf2; have hSa := hS.below (below1 wr (.cells #[.int .i64 t.k, .string t.tx, .int .i64 t.a, .int .i64 t.e, .bool t.sp] 83)); have hS2 := hSa.more (show TokOwn w2 w.heap.size v2 (line ++ [t]) by unfold TokOwn; rw [List.length_append, tzCells_snoc]; exact hL2) hg2 hf2; have hB2 := (hbx.alloc hbs (.cells #[.int .i64 t.k, .string t.tx, .int .i64 t.a, .int .i64 t.e, .bool t.sp] 83)).grown hg2 (by simp; omega) (fun j e => (hS.line.lt j e).1); have hs2 := hB2.size; have hwr2 := ((below1 wr (.cells #[.int .i64 t.k, .string t.tx, .int .i64 t.a, .int .i64 t.e, .bool t.sp] 83)).mono hbs).grown hg2 (by simp; omega) (fun j e => (hS.line.lt j e).1); have e0 := HC0.out w2 hwr2))
        go_roundg (n - (k + 1))
        case rel => exact ⟨k + 1, rs, vs, line ++ [t], by omega, by go_num, rfl, HR2, by omega, by rw [List.length_append]; simp only [List.length_cons, List.length_nil]; omega, by rw [List.length_append]; simp only [List.length_cons, List.length_nil]; omega, hS2, hB2⟩
        case measure => omega
      · have hfl : (t.k == 9) = true ∨ k + 1 = ts.length := by
          by_cases h9 : (t.k == 9) = true
          · exact .inl h9
          · right; rw [HN.out]
            have : ¬ k + 1 < n := fun h => hgo ⟨h9, h⟩
            omega
        have HR2 := Lib.hid (HR.out.flush ht hfl)
        clear HR ht hfl
        by_cases k9 : (t.k == 9) = true
        · have k9a : (t.k != 9) = false := by simpa using k9
          clear hgo
          obtain ⟨bs, hbs'⟩ : ∃ bs, (bareS (line ++ [t])).1 = bs := ⟨_, rfl⟩
          have hrow := rowOf_eq _ _ hbs'
          have hbl : bs.length ≤ line.length + 1 := by
            rw [← hbs']
            have := bareS_len (line ++ [t])
            simpa using this
          go_wp2_with ((at_builtin; refine wpList_fresh ET _ rfl _ _ rfl w.heap.size _ line.length (tzCells line) rfl (hS.line.alloc _) ⟨wr.heap.size, 0, none⟩ 1 1 [.int .i64 t.k, .string t.tx, .int .i64 t.a, .int .i64 t.e, .bool t.sp] rfl rfl (cell5_new _ _ _ _ _ _ _) (by simp [Value.oneCell']) (by unfold maxLen; omega) (by omega) (by simp; omega) ?_; intro v2 w2 hL2 hg2 hf2; have hSa := hS.below (below1 wr (.cells #[.int .i64 t.k, .string t.tx, .int .i64 t.a, .int .i64 t.e, .bool t.sp] 83)); have hS2 := hSa.more (show TokOwn w2 w.heap.size v2 (line ++ [t]) by unfold TokOwn; rw [List.length_append, tzCells_snoc]; exact hL2) hg2 hf2; have hB2 := (hbx.alloc hbs (.cells #[.int .i64 t.k, .string t.tx, .int .i64 t.a, .int .i64 t.e, .bool t.sp] 83)).grown hg2 (by simp; omega) (fun j e => (hS.line.lt j e).1); have hs2 := hB2.size; have hwr2 := ((below1 wr (.cells #[.int .i64 t.k, .string t.tx, .int .i64 t.a, .int .i64 t.e, .bool t.sp] 83)).mono hbs).grown hg2 (by simp; omega) (fun j e => (hS.line.lt j e).1); have e0 := HC0.out w2 hwr2))
          have hL2' : w2.ownsRow w.heap.size 83 5 v2 (line.length + 1) (tzCells (line ++ [t])) := by rw [tzCells_snoc]; exact hL2
          obtain ⟨la, lcap, rfl⟩ := row_shape hL2'
          obtain ⟨gl, rfl, hgl, hcl⟩ := row_pos (Nat.succ_pos _) hL2'
          have htl : TzRow w2 gl (line ++ [t]) := fun i u hu => ⟨hcl _ _ (tzCells_get hu 0 (by decide)), hcl _ _ (tzCells_get hu 1 (by decide)), hcl _ _ (tzCells_get hu 2 (by decide)), hcl _ _ (tzCells_get hu 3 (by decide)), hcl _ _ (tzCells_get hu 4 (by decide))⟩
          refine (rbare_own (ts := line ++ [t]) (bs := bs) (n := line.length + 1) (m := bs.length) (cap := lcap) (w := w2) hbs' rfl (by simp) (by omega) (fun _ => ⟨gl, 0, rfl, hgl, htl.at⟩)).mono ?_
          rintro e w3 ⟨⟨ab, bcap, rfl, hbcap, hbr⟩, hb3⟩
          have hS3 := hS2.below hb3
          have hB3 := hB2.trans (hb3.mono hs2)
          have hbin : TzIn w3 ab bs := fun hp => by
            obtain ⟨g, e, hg, hr⟩ := hbr hp
            exact ⟨g, 0, e, hg, hr.at⟩
          clear hbr
          go_wp2_with fail
          refine (rhash_any bs bs.length bcap ab w3 rfl hbin).mono ?_
          rintro e w4 ⟨rfl, q, hq⟩
          have hb4 : Below w3.heap.size w3 w4 := by rw [hq]; exact below_drewN (Below.refl _ _) q
          have hS4 := hS3.below hb4
          have hB4 := hB3.trans (hb4.mono hB3.size)
          have hbin4 : TzIn w4 ab bs := hbin.below hb4
          have hs4 := hB4.size
          clear hq hbin hb4 hb3 hS3 hB3 hS2 hB2 hL2 hL2' htl hcl hgl e0 hwr2
          go_upto_region 10 with fail
          have hk5 := mcells (w := w4) (vs := #[.bool (hashB bs), .string ⟨#[]⟩, (.slice (some ⟨gl, 0, none⟩) (line.length + 1) lcap)]) (t := 50)
          have k0 := hk5 0 _ rfl
          have k1 := hk5 1 _ rfl
          have k2 := hk5 2 _ rfl
          have hb5 := below1 w4 (.cells #[.bool (hashB bs), .string ⟨#[]⟩, (.slice (some ⟨gl, 0, none⟩) (line.length + 1) lcap)] 50)
          have hblk5 := World.alloc_heap_new w4 (.cells #[.bool (hashB bs), .string ⟨#[]⟩, (.slice (some ⟨gl, 0, none⟩) (line.length + 1) lcap)] 50)
          have hS5 := hS4.below hb5
          have hB5 := hB4.trans (hb5.mono hs4)
          have hbin5 : TzIn (w4.alloc (.cells #[.bool (hashB bs), .string ⟨#[]⟩, (.slice (some ⟨gl, 0, none⟩) (line.length + 1) lcap)] 50)) ab bs := hbin4.below hb5
          have hs5 := hB5.size
          have HS4 := Lib.hid hS4
          have HB4 := Lib.hid hB4
          have HB5 := Lib.hid hb5
          clear hk5 hb5 hS4 hB4 hbin4
          generalize w4.alloc (.cells #[.bool (hashB bs), .string ⟨#[]⟩, (.slice (some ⟨gl, 0, none⟩) (line.length + 1) lcap)] 50) = W5 at *
          have HRB := Lib.hid (show addLine rs (line ++ [t]) = addRow rs ⟨hashB bs, if hashB bs then nameB bs else ⟨#[]⟩, line ++ [t]⟩ by unfold addLine; rw [hrow])
          clear hrow hbs'
          cases hd : hashB bs with
          | false =>
            have HR3 : Hid (RowsAt ts (k + 1) (addRow rs ⟨false, ⟨#[]⟩, line ++ [t]⟩) []) := Lib.hid (by have h := HR2.out; rw [HRB.out, hd] at h; exact h)
            rw [hd] at k0 hblk5
            clear hd hbin5 HR2 HRB
            rcases snoc_or rs with rfl | ⟨r0, qr, rfl⟩
            · have HQ : Hid (RowsAt ts (k + 1) ([] ++ [⟨false, ⟨#[]⟩, line ++ [t]⟩]) []) := HR3
              clear HR3
              go_wp2_with (at_builtin; refine wpList_append_own _ rfl _ _ 47 rfl w.heap.size 50 j0 (.agg #[.bool false, .string ⟨#[]⟩, .slice none 0 0]) 3 48 Tryz.underlying47 hj hy0 hy1 hy2 rfl (by decide) _ _ _ rfl (hS5.own.row.alloc _) ⟨W5.heap.size, 0, none⟩ 1 1 [.bool false, .string ⟨#[]⟩, .slice (some ⟨gl, 0, none⟩) (line.length + 1) lcap] rfl rfl (cell3_new _ _ _ _ _) (by intro u hu; simp only [List.mem_cons, List.not_mem_nil, or_false] at hu; rcases hu with rfl | rfl | rfl <;> rfl) (by unfold maxLen; omega) (by omega) (by simp; omega) ?_; intro v6 w6 hO6 hg6 hn6; clear hn6; have hS6 := (hS5.below (below1 W5 (.cells #[.bool false, .string ⟨#[]⟩, .slice (some ⟨gl, 0, none⟩) (line.length + 1) lcap] 50))).push false ⟨#[]⟩ hO6 hg6; have hB6 := (hB5.alloc hs5 _).grown hg6 (by simp; omega) (fun j e => (hS5.own.row.lt j e).1))
              go_roundg (n - (k + 1))
              case rel => exact ⟨k + 1, _, _, [], by omega, by go_num, rfl, HQ, by first | (simp; done) | (simp; omega), Nat.zero_le _, by rw [toksN_snoc, List.length_append]; simp only [List.length_cons, List.length_nil]; omega, hS6, hB6⟩
              case measure => omega
            · obtain ⟨vs0, uq, rfl⟩ : ∃ vs0 uq, vs = vs0 ++ [uq] := by
                rcases snoc_or vs with rfl | ⟨vs0, uq, rfl⟩
                · have := hS.own.len; simp at this
                · exact ⟨vs0, uq, rfl⟩
              have hl0 : r0.length = vs0.length := by have := hS5.own.len; simpa using this
              have hlx : (r0 ++ [qr]).length = r0.length + 1 := by simp
              have hrow5 := hS5.own.row
              rw [hlx] at hrow5 hS5 hrl ⊢
              obtain ⟨go, rfl, hgo5, hclo⟩ := row_pos (Nat.succ_pos _) hrow5
              obtain ⟨z0, z1, z2⟩ := rzVals_get (rs := r0 ++ [qr]) (vs := vs0 ++ [uq]) (i := r0.length) (r := qr) (v := uq) (by simp) (by rw [hl0]; simp)
              have d0 := hclo _ _ z0
              have d2 := hclo _ _ z2
              have HL0 := Lib.hid hl0
              have Z2 := Lib.hid z2
              have HLX := Lib.hid hlx
              have hgoB : w.heap.size ≤ go := (hrow5.lt go rfl).1
              clear z0 z1 z2 hl0 hlx hclo
              cases hqd : qr.d with
              | true =>
                rw [hqd] at d0
                have HQ : Hid (RowsAt ts (k + 1) ((r0 ++ [qr]) ++ [⟨false, ⟨#[]⟩, line ++ [t]⟩]) []) := Lib.hid (by rw [← addRow_new (.inr (.inr ⟨r0, qr, rfl, hqd⟩))]; exact HR3.out)
                clear HR3
                go_wp2_with (at_builtin; refine wpList_append_own _ rfl _ _ 47 rfl w.heap.size 50 j0 (.agg #[.bool false, .string ⟨#[]⟩, .slice none 0 0]) 3 48 Tryz.underlying47 hj hy0 hy1 hy2 rfl (by decide) _ _ _ rfl (hrow5.alloc _) ⟨W5.heap.size, 0, none⟩ 1 1 [.bool false, .string ⟨#[]⟩, .slice (some ⟨gl, 0, none⟩) (line.length + 1) lcap] rfl rfl (cell3_new _ _ _ _ _) (by intro u hu; simp only [List.mem_cons, List.not_mem_nil, or_false] at hu; rcases hu with rfl | rfl | rfl <;> rfl) (by unfold maxLen; omega) (by omega) (by simp; omega) ?_; intro v6 w6 hO6 hg6 hn6; clear hn6; have hS6 := (hS5.below (below1 W5 (.cells #[.bool false, .string ⟨#[]⟩, .slice (some ⟨gl, 0, none⟩) (line.length + 1) lcap] 50))).push false ⟨#[]⟩ (by rw [HLX.out]; exact hO6) hg6; have hB6 := (hB5.alloc hs5 _).grown hg6 (by simp; omega) (fun j e => (hrow5.lt j e).1))
                go_roundg (n - (k + 1))
                case rel => exact ⟨k + 1, _, _, [], by omega, by go_num, rfl, HQ, by first | (simp; done) | (simp; omega), Nat.zero_le _, by rw [toksN_snoc, List.length_append]; simp only [List.length_cons, List.length_nil]; omega, hS6, hB6⟩
                case measure => omega
              | false =>
                rw [hqd] at d0
                have HQ : Hid (RowsAt ts (k + 1) (r0 ++ [⟨qr.d, qr.nm, qr.ts ++ (line ++ [t])⟩]) []) := Lib.hid (by rw [← addRow_more (r := ⟨false, ⟨#[]⟩, line ++ [t]⟩) rfl hqd]; exact HR3.out)
                have huT : TokOwn W5 w.heap.size uq qr.ts := hS5.own.ts r0.length qr uq (by simp) (by rw [HL0.out]; simp)
                have htn2 : qr.ts.length + (line.length + 1) ≤ k + 1 := by rw [toksN_snoc] at htn; omega
                have hcl5 : ∀ j u, (tzCells (line ++ [t]))[j]? = some u → W5.cell? ((⟨gl, 0, none⟩ : Addr).add j) = some u := hS5.line.cells (g := gl) rfl
                clear HR3
                go_wp2_with (at_builtin; refine wpList_fresh ET _ rfl _ _ rfl w.heap.size uq qr.ts.length (tzCells qr.ts) rfl huT ⟨gl, 0, none⟩ (line.length + 1) lcap (tzCells (line ++ [t])) rfl (by rw [tzCells_len]; simp) hcl5 (tzCells_one _) (by unfold maxLen; omega) (by omega) (by omega) ?_; intro v6 w6 hL6 hg6 hf6; obtain ⟨a6, c6, rfl⟩ := row_shape hL6; have hL6b : TokOwn w6 w.heap.size (.slice a6 (qr.ts.length + (line.length + 1)) c6) (qr.ts ++ (line ++ [t])) := (by unfold TokOwn; rw [List.length_append, List.length_append, tzCells_append]; exact hL6); obtain ⟨hS6, hrow6⟩ := hS5.last HL0.out hL6b hg6 hf6; have dd : w6.cell? ⟨go, r0.length * 3 + 2, none⟩ = some uq := (by obtain ⟨g9, h9, _, hc9⟩ := row_pos (Nat.succ_pos _) hrow6; cases h9; exact hc9 _ _ Z2.out); have fz := hrow6.frozenAt (r0.length * 3 + 2))
                go_roundg (n - (k + 1))
                case rel => exact ⟨k + 1, _, _, [], by omega, by go_num, rfl, HQ, by simp; omega, Nat.zero_le _, by rw [toksN_snoc, List.length_append] at *; simp only [List.length_cons, List.length_nil, List.length_append] at *; omega, hS6, (hB5.grown hg6 (by omega) (fun j e => (huT.lt j e).1)).setCell hgoB _⟩
                case measure => omega
          | true =>
            have HR3 : Hid (∀ nm, nameB bs = nm → RowsAt ts (k + 1) (rs ++ [⟨true, nm, line ++ [t]⟩]) []) := Lib.hid (fun nm hnm => by have h := HR2.out; rw [HRB.out, hd, hnm, addRow_new (.inl rfl)] at h; exact h)
            rw [hd] at k0 hblk5
            clear hd HR2 HRB
            by_cases hlen : 1 < bs.length
            · obtain ⟨u, hu⟩ : ∃ u, bs[1]? = some u := ⟨_, List.getElem?_eq_getElem hlen⟩
              obtain ⟨gb, ob, rfl, hgb, hrb⟩ := hbin5 (by omega)
              obtain ⟨e0, e1, -⟩ := hrb 1 u hu
              have HNM := Lib.hid (nameB_two hu)
              have j3 : (1 : Int) < (bs.length : Int) := by omega
              clear hrb hu hlen
              cases hk1 : (u.k == 1) with
              | false =>
                have HQ := Lib.hid (HR3.out ⟨#[]⟩ (by rw [HNM.out, hk1]; rfl))
                clear HR3 HNM
                go_wp2_with (at_builtin; refine wpList_append_own _ rfl _ _ 47 rfl w.heap.size 50 j0 (.agg #[.bool false, .string ⟨#[]⟩, .slice none 0 0]) 3 48 Tryz.underlying47 hj hy0 hy1 hy2 rfl (by decide) _ _ _ rfl (hS5.own.row.alloc _) ⟨W5.heap.size, 0, none⟩ 1 1 [.bool true, .string ⟨#[]⟩, .slice (some ⟨gl, 0, none⟩) (line.length + 1) lcap] rfl rfl (cell3_new _ _ _ _ _) (by intro u hu; simp only [List.mem_cons, List.not_mem_nil, or_false] at hu; rcases hu with rfl | rfl | rfl <;> rfl) (by unfold maxLen; omega) (by omega) (by simp; omega) ?_; intro v6 w6 hO6 hg6 hn6; clear hn6; have hS6 := (hS5.below (below1 W5 (.cells #[.bool true, .string ⟨#[]⟩, .slice (some ⟨gl, 0, none⟩) (line.length + 1) lcap] 50))).push true ⟨#[]⟩ hO6 hg6; have hB6 := (hB5.alloc hs5 _).grown hg6 (by simp; omega) (fun j e => (hS5.own.row.lt j e).1))
                go_roundg (n - (k + 1))
                case rel => exact ⟨k + 1, _, _, [], by omega, by go_num, rfl, HQ, by first | (simp; done) | (simp; omega), Nat.zero_le _, by rw [toksN_snoc, List.length_append]; simp only [List.length_cons, List.length_nil]; omega, hS6, hB6⟩
                case measure => omega
              | true =>
                have HQ := Lib.hid (HR3.out u.tx (by rw [HNM.out, hk1]; rfl))
                clear HR3 HNM
                have fz5 := box_free hblk5
                go_upto_region 12 with fail
                obtain ⟨q0, q1, q2⟩ := box_set (u := .string u.tx) hblk5
                have hb7 := HB5.out.setCell (p := ⟨w4.heap.size, 1, none⟩) (Nat.le_refl _) (.string u.tx)
                have hS7 := HS4.out.below hb7
                have hB7 := HB4.out.trans (hb7.mono hs4)
                have hs7 := hB7.size
                clear fz5 k0 k1 k2 hblk5 hS5 hB5 hs5 HS4 HB4 HB5 hb7 hbin5 hgb e0 e1 hk1
                generalize W5.setCell ⟨w4.heap.size, 1, none⟩ (.string u.tx) = W7 at *
                go_wp2_with (at_builtin; refine wpList_append_own _ rfl _ _ 47 rfl w.heap.size 50 j0 (.agg #[.bool false, .string ⟨#[]⟩, .slice none 0 0]) 3 48 Tryz.underlying47 hj hy0 hy1 hy2 rfl (by decide) _ _ _ rfl (hS7.own.row.alloc _) ⟨W7.heap.size, 0, none⟩ 1 1 [.bool true, .string u.tx, .slice (some ⟨gl, 0, none⟩) (line.length + 1) lcap] rfl rfl (cell3_new _ _ _ _ _) (by intro u hu; simp only [List.mem_cons, List.not_mem_nil, or_false] at hu; rcases hu with rfl | rfl | rfl <;> rfl) (by unfold maxLen; omega) (by omega) (by simp; omega) ?_; intro v6 w6 hO6 hg6 hn6; clear hn6; have hS8 := (hS7.below (below1 W7 (.cells #[.bool true, .string u.tx, .slice (some ⟨gl, 0, none⟩) (line.length + 1) lcap] 50))).push true u.tx hO6 hg6; have hB8 := (hB7.alloc hs7 _).grown hg6 (by simp; omega) (fun j e => (hS7.own.row.lt j e).1))
                go_roundg (n - (k + 1))
                case rel => exact ⟨k + 1, _, _, [], by omega, by go_num, rfl, HQ, by first | (simp; done) | (simp; omega), Nat.zero_le _, by rw [toksN_snoc, List.length_append]; simp only [List.length_cons, List.length_nil]; omega, hS8, hB8⟩
                case measure => omega
            · have HQ := Lib.hid (HR3.out ⟨#[]⟩ (nameB_short hlen))
              have j3 : ¬ (1 : Int) < (bs.length : Int) := by omega
              clear HR3 hlen hbin5
              go_wp2_with (at_builtin; refine wpList_append_own _ rfl _ _ 47 rfl w.heap.size 50 j0 (.agg #[.bool false, .string ⟨#[]⟩, .slice none 0 0]) 3 48 Tryz.underlying47 hj hy0 hy1 hy2 rfl (by decide) _ _ _ rfl (hS5.own.row.alloc _) ⟨W5.heap.size, 0, none⟩ 1 1 [.bool true, .string ⟨#[]⟩, .slice (some ⟨gl, 0, none⟩) (line.length + 1) lcap] rfl rfl (cell3_new _ _ _ _ _) (by intro u hu; simp only [List.mem_cons, List.not_mem_nil, or_false] at hu; rcases hu with rfl | rfl | rfl <;> rfl) (by unfold maxLen; omega) (by omega) (by simp; omega) ?_; intro v6 w6 hO6 hg6 hn6; clear hn6; have hS6 := (hS5.below (below1 W5 (.cells #[.bool true, .string ⟨#[]⟩, .slice (some ⟨gl, 0, none⟩) (line.length + 1) lcap] 50))).push true ⟨#[]⟩ hO6 hg6; have hB6 := (hB5.alloc hs5 _).grown hg6 (by simp; omega) (fun j e => (hS5.own.row.lt j e).1))
              go_roundg (n - (k + 1))
              case rel => exact ⟨k + 1, _, _, [], by omega, by go_num, rfl, HQ, by first | (simp; done) | (simp; omega), Nat.zero_le _, by rw [toksN_snoc, List.length_append]; simp only [List.length_cons, List.length_nil]; omega, hS6, hB6⟩
              case measure => omega
        · have k9a : (t.k != 9) = true := by simpa using k9
          have k9b : (t.k == 9) = false := Bool.eq_false_iff.2 k9
          have k8 : ¬ (k : Int) < (n : Int) - 1 := by
            have : ¬ k + 1 < n := fun h => hgo ⟨k9, h⟩
            omega
          clear hgo k9
          obtain ⟨bs, hbs'⟩ : ∃ bs, (bareS (line ++ [t])).1 = bs := ⟨_, rfl⟩
          have hrow := rowOf_eq _ _ hbs'
          have hbl : bs.length ≤ line.length + 1 := by
            rw [← hbs']
            have := bareS_len (line ++ [t])
            simpa using this
          go_wp2_with ((at_builtin; refine wpList_fresh ET _ rfl _ _ rfl w.heap.size _ line.length (tzCells line) rfl (hS.line.alloc _) ⟨wr.heap.size, 0, none⟩ 1 1 [.int .i64 t.k, .string t.tx, .int .i64 t.a, .int .i64 t.e, .bool t.sp] rfl rfl (cell5_new _ _ _ _ _ _ _) (by simp [Value.oneCell']) (by unfold maxLen; omega) (by omega) (by simp; omega) ?_; intro v2 w2 hL2 hg2 hf2; have hSa := hS.below (below1 wr (.cells #[.int .i64 t.k, .string t.tx, .int .i64 t.a, .int .i64 t.e, .bool t.sp] 83)); have hS2 := hSa.more (show TokOwn w2 w.heap.size v2 (line ++ [t]) by unfold TokOwn; rw [List.length_append, tzCells_snoc]; exact hL2) hg2 hf2; have hB2 := (hbx.alloc hbs (.cells #[.int .i64 t.k, .string t.tx, .int .i64 t.a, .int .i64 t.e, .bool t.sp] 83)).grown hg2 (by simp; omega) (fun j e => (hS.line.lt j e).1); have hs2 := hB2.size; have hwr2 := ((below1 wr (.cells #[.int .i64 t.k, .string t.tx, .int .i64 t.a, .int .i64 t.e, .bool t.sp] 83)).mono hbs).grown hg2 (by simp; omega) (fun j e => (hS.line.lt j e).1); have e0 := HC0.out w2 hwr2))
          have hL2' : w2.ownsRow w.heap.size 83 5 v2 (line.length + 1) (tzCells (line ++ [t])) := by rw [tzCells_snoc]; exact hL2
          obtain ⟨la, lcap, rfl⟩ := row_shape hL2'
          obtain ⟨gl, rfl, hgl, hcl⟩ := row_pos (Nat.succ_pos _) hL2'
          have htl : TzRow w2 gl (line ++ [t]) := fun i u hu => ⟨hcl _ _ (tzCells_get hu 0 (by decide)), hcl _ _ (tzCells_get hu 1 (by decide)), hcl _ _ (tzCells_get hu 2 (by decide)), hcl _ _ (tzCells_get hu 3 (by decide)), hcl _ _ (tzCells_get hu 4 (by decide))⟩
          refine (rbare_own (ts := line ++ [t]) (bs := bs) (n := line.length + 1) (m := bs.length) (cap := lcap) (w := w2) hbs' rfl (by simp) (by omega) (fun _ => ⟨gl, 0, rfl, hgl, htl.at⟩)).mono ?_
          rintro e w3 ⟨⟨ab, bcap, rfl, hbcap, hbr⟩, hb3⟩
          have hS3 := hS2.below hb3
          have hB3 := hB2.trans (hb3.mono hs2)
          have hbin : TzIn w3 ab bs := fun hp => by
            obtain ⟨g, e, hg, hr⟩ := hbr hp
            exact ⟨g, 0, e, hg, hr.at⟩
          clear hbr
          go_wp2_with fail
          refine (rhash_any bs bs.length bcap ab w3 rfl hbin).mono ?_
          rintro e w4 ⟨rfl, q, hq⟩
          have hb4 : Below w3.heap.size w3 w4 := by rw [hq]; exact below_drewN (Below.refl _ _) q
          have hS4 := hS3.below hb4
          have hB4 := hB3.trans (hb4.mono hB3.size)
          have hbin4 : TzIn w4 ab bs := hbin.below hb4
          have hs4 := hB4.size
          clear hq hbin hb4 hb3 hS3 hB3 hS2 hB2 hL2 hL2' htl hcl hgl e0 hwr2
          go_upto_region 10 with fail
          have hk5 := mcells (w := w4) (vs := #[.bool (hashB bs), .string ⟨#[]⟩, (.slice (some ⟨gl, 0, none⟩) (line.length + 1) lcap)]) (t := 50)
          have k0 := hk5 0 _ rfl
          have k1 := hk5 1 _ rfl
          have k2 := hk5 2 _ rfl
          have hb5 := below1 w4 (.cells #[.bool (hashB bs), .string ⟨#[]⟩, (.slice (some ⟨gl, 0, none⟩) (line.length + 1) lcap)] 50)
          have hblk5 := World.alloc_heap_new w4 (.cells #[.bool (hashB bs), .string ⟨#[]⟩, (.slice (some ⟨gl, 0, none⟩) (line.length + 1) lcap)] 50)
          have hS5 := hS4.below hb5
          have hB5 := hB4.trans (hb5.mono hs4)
          have hbin5 : TzIn (w4.alloc (.cells #[.bool (hashB bs), .string ⟨#[]⟩, (.slice (some ⟨gl, 0, none⟩) (line.length + 1) lcap)] 50)) ab bs := hbin4.below hb5
          have hs5 := hB5.size
          have HS4 := Lib.hid hS4
          have HB4 := Lib.hid hB4
          have HB5 := Lib.hid hb5
          clear hk5 hb5 hS4 hB4 hbin4
          generalize w4.alloc (.cells #[.bool (hashB bs), .string ⟨#[]⟩, (.slice (some ⟨gl, 0, none⟩) (line.length + 1) lcap)] 50) = W5 at *
          have HRB := Lib.hid (show addLine rs (line ++ [t]) = addRow rs ⟨hashB bs, if hashB bs then nameB bs else ⟨#[]⟩, line ++ [t]⟩ by unfold addLine; rw [hrow])
          clear hrow hbs'
          cases hd : hashB bs with
          | false =>
            have HR3 : Hid (RowsAt ts (k + 1) (addRow rs ⟨false, ⟨#[]⟩, line ++ [t]⟩) []) := Lib.hid (by have h := HR2.out; rw [HRB.out, hd] at h; exact h)
            rw [hd] at k0 hblk5
            clear hd hbin5 HR2 HRB
            rcases snoc_or rs with rfl | ⟨r0, qr, rfl⟩
            · have HQ : Hid (RowsAt ts (k + 1) ([] ++ [⟨false, ⟨#[]⟩, line ++ [t]⟩]) []) := HR3
              clear HR3
              go_wp2_with (at_builtin; refine wpList_append_own _ rfl _ _ 47 rfl w.heap.size 50 j0 (.agg #[.bool false, .string ⟨#[]⟩, .slice none 0 0]) 3 48 Tryz.underlying47 hj hy0 hy1 hy2 rfl (by decide) _ _ _ rfl (hS5.own.row.alloc _) ⟨W5.heap.size, 0, none⟩ 1 1 [.bool false, .string ⟨#[]⟩, .slice (some ⟨gl, 0, none⟩) (line.length + 1) lcap] rfl rfl (cell3_new _ _ _ _ _) (by intro u hu; simp only [List.mem_cons, List.not_mem_nil, or_false] at hu; rcases hu with rfl | rfl | rfl <;> rfl) (by unfold maxLen; omega) (by omega) (by simp; omega) ?_; intro v6 w6 hO6 hg6 hn6; clear hn6; have hS6 := (hS5.below (below1 W5 (.cells #[.bool false, .string ⟨#[]⟩, .slice (some ⟨gl, 0, none⟩) (line.length + 1) lcap] 50))).push false ⟨#[]⟩ hO6 hg6; have hB6 := (hB5.alloc hs5 _).grown hg6 (by simp; omega) (fun j e => (hS5.own.row.lt j e).1))
              go_roundg (n - (k + 1))
              case rel => exact ⟨k + 1, _, _, [], by omega, by go_num, rfl, HQ, by first | (simp; done) | (simp; omega), Nat.zero_le _, by rw [toksN_snoc, List.length_append]; simp only [List.length_cons, List.length_nil]; omega, hS6, hB6⟩
              case measure => omega
            · obtain ⟨vs0, uq, rfl⟩ : ∃ vs0 uq, vs = vs0 ++ [uq] := by
                rcases snoc_or vs with rfl | ⟨vs0, uq, rfl⟩
                · have := hS.own.len; simp at this
                · exact ⟨vs0, uq, rfl⟩
              have hl0 : r0.length = vs0.length := by have := hS5.own.len; simpa using this
              have hlx : (r0 ++ [qr]).length = r0.length + 1 := by simp
              have hrow5 := hS5.own.row
              rw [hlx] at hrow5 hS5 hrl ⊢
              obtain ⟨go, rfl, hgo5, hclo⟩ := row_pos (Nat.succ_pos _) hrow5
              obtain ⟨z0, z1, z2⟩ := rzVals_get (rs := r0 ++ [qr]) (vs := vs0 ++ [uq]) (i := r0.length) (r := qr) (v := uq) (by simp) (by rw [hl0]; simp)
              have d0 := hclo _ _ z0
              have d2 := hclo _ _ z2
              have HL0 := Lib.hid hl0
              have Z2 := Lib.hid z2
              have HLX := Lib.hid hlx
              have hgoB : w.heap.size ≤ go := (hrow5.lt go rfl).1
              clear z0 z1 z2 hl0 hlx hclo
              cases hqd : qr.d with
              | true =>
                rw [hqd] at d0
                have HQ : Hid (RowsAt ts (k + 1) ((r0 ++ [qr]) ++ [⟨false, ⟨#[]⟩, line ++ [t]⟩]) []) := Lib.hid (by rw [← addRow_new (.inr (.inr ⟨r0, qr, rfl, hqd⟩))]; exact HR3.out)
                clear HR3
                go_wp2_with (at_builtin; refine wpList_append_own _ rfl _ _ 47 rfl w.heap.size 50 j0 (.agg #[.bool false, .string ⟨#[]⟩, .slice none 0 0]) 3 48 Tryz.underlying47 hj hy0 hy1 hy2 rfl (by decide) _ _ _ rfl (hrow5.alloc _) ⟨W5.heap.size, 0, none⟩ 1 1 [.bool false, .string ⟨#[]⟩, .slice (some ⟨gl, 0, none⟩) (line.length + 1) lcap] rfl rfl (cell3_new _ _ _ _ _) (by intro u hu; simp only [List.mem_cons, List.not_mem_nil, or_false] at hu; rcases hu with rfl | rfl | rfl <;> rfl) (by unfold maxLen; omega) (by omega) (by simp; omega) ?_; intro v6 w6 hO6 hg6 hn6; clear hn6; have hS6 := (hS5.below (below1 W5 (.cells #[.bool false, .string ⟨#[]⟩, .slice (some ⟨gl, 0, none⟩) (line.length + 1) lcap] 50))).push false ⟨#[]⟩ (by rw [HLX.out]; exact hO6) hg6; have hB6 := (hB5.alloc hs5 _).grown hg6 (by simp; omega) (fun j e => (hrow5.lt j e).1))
                go_roundg (n - (k + 1))
                case rel => exact ⟨k + 1, _, _, [], by omega, by go_num, rfl, HQ, by first | (simp; done) | (simp; omega), Nat.zero_le _, by rw [toksN_snoc, List.length_append]; simp only [List.length_cons, List.length_nil]; omega, hS6, hB6⟩
                case measure => omega
              | false =>
                rw [hqd] at d0
                have HQ : Hid (RowsAt ts (k + 1) (r0 ++ [⟨qr.d, qr.nm, qr.ts ++ (line ++ [t])⟩]) []) := Lib.hid (by rw [← addRow_more (r := ⟨false, ⟨#[]⟩, line ++ [t]⟩) rfl hqd]; exact HR3.out)
                have huT : TokOwn W5 w.heap.size uq qr.ts := hS5.own.ts r0.length qr uq (by simp) (by rw [HL0.out]; simp)
                have htn2 : qr.ts.length + (line.length + 1) ≤ k + 1 := by rw [toksN_snoc] at htn; omega
                have hcl5 : ∀ j u, (tzCells (line ++ [t]))[j]? = some u → W5.cell? ((⟨gl, 0, none⟩ : Addr).add j) = some u := hS5.line.cells (g := gl) rfl
                clear HR3
                go_wp2_with (at_builtin; refine wpList_fresh ET _ rfl _ _ rfl w.heap.size uq qr.ts.length (tzCells qr.ts) rfl huT ⟨gl, 0, none⟩ (line.length + 1) lcap (tzCells (line ++ [t])) rfl (by rw [tzCells_len]; simp) hcl5 (tzCells_one _) (by unfold maxLen; omega) (by omega) (by omega) ?_; intro v6 w6 hL6 hg6 hf6; obtain ⟨a6, c6, rfl⟩ := row_shape hL6; have hL6b : TokOwn w6 w.heap.size (.slice a6 (qr.ts.length + (line.length + 1)) c6) (qr.ts ++ (line ++ [t])) := (by unfold TokOwn; rw [List.length_append, List.length_append, tzCells_append]; exact hL6); obtain ⟨hS6, hrow6⟩ := hS5.last HL0.out hL6b hg6 hf6; have dd : w6.cell? ⟨go, r0.length * 3 + 2, none⟩ = some uq := (by obtain ⟨g9, h9, _, hc9⟩ := row_pos (Nat.succ_pos _) hrow6; cases h9; exact hc9 _ _ Z2.out); have fz := hrow6.frozenAt (r0.length * 3 + 2))
                go_roundg (n - (k + 1))
                case rel => exact ⟨k + 1, _, _, [], by omega, by go_num, rfl, HQ, by simp; omega, Nat.zero_le _, by rw [toksN_snoc, List.length_append] at *; simp only [List.length_cons, List.length_nil, List.length_append] at *; omega, hS6, (hB5.grown hg6 (by omega) (fun j e => (huT.lt j e).1)).setCell hgoB _⟩
                case measure => omega
          | true =>
            have HR3 : Hid (∀ nm, nameB bs = nm → RowsAt ts (k + 1) (rs ++ [⟨true, nm, line ++ [t]⟩]) []) := Lib.hid (fun nm hnm => by have h := HR2.out; rw [HRB.out, hd, hnm, addRow_new (.inl rfl)] at h; exact h)
            rw [hd] at k0 hblk5
            clear hd HR2 HRB
            by_cases hlen : 1 < bs.length
            · obtain ⟨u, hu⟩ : ∃ u, bs[1]? = some u := ⟨_, List.getElem?_eq_getElem hlen⟩
              obtain ⟨gb, ob, rfl, hgb, hrb⟩ := hbin5 (by omega)
              obtain ⟨e0, e1, -⟩ := hrb 1 u hu
              have HNM := Lib.hid (nameB_two hu)
              have j3 : (1 : Int) < (bs.length : Int) := by omega
              clear hrb hu hlen
              cases hk1 : (u.k == 1) with
              | false =>
                have HQ := Lib.hid (HR3.out ⟨#[]⟩ (by rw [HNM.out, hk1]; rfl))
                clear HR3 HNM
                go_wp2_with (at_builtin; refine wpList_append_own _ rfl _ _ 47 rfl w.heap.size 50 j0 (.agg #[.bool false, .string ⟨#[]⟩, .slice none 0 0]) 3 48 Tryz.underlying47 hj hy0 hy1 hy2 rfl (by decide) _ _ _ rfl (hS5.own.row.alloc _) ⟨W5.heap.size, 0, none⟩ 1 1 [.bool true, .string ⟨#[]⟩, .slice (some ⟨gl, 0, none⟩) (line.length + 1) lcap] rfl rfl (cell3_new _ _ _ _ _) (by intro u hu; simp only [List.mem_cons, List.not_mem_nil, or_false] at hu; rcases hu with rfl | rfl | rfl <;> rfl) (by unfold maxLen; omega) (by omega) (by simp; omega) ?_; intro v6 w6 hO6 hg6 hn6; clear hn6; have hS6 := (hS5.below (below1 W5 (.cells #[.bool true, .string ⟨#[]⟩, .slice (some ⟨gl, 0, none⟩) (line.length + 1) lcap] 50))).push true ⟨#[]⟩ hO6 hg6; have hB6 := (hB5.alloc hs5 _).grown hg6 (by simp; omega) (fun j e => (hS5.own.row.lt j e).1))
                go_roundg (n - (k + 1))
                case rel => exact ⟨k + 1, _, _, [], by omega, by go_num, rfl, HQ, by first | (simp; done) | (simp; omega), Nat.zero_le _, by rw [toksN_snoc, List.length_append]; simp only [List.length_cons, List.length_nil]; omega, hS6, hB6⟩
                case measure => omega
              | true =>
                have HQ := Lib.hid (HR3.out u.tx (by rw [HNM.out, hk1]; rfl))
                clear HR3 HNM
                have fz5 := box_free hblk5
                go_upto_region 12 with fail
                obtain ⟨q0, q1, q2⟩ := box_set (u := .string u.tx) hblk5
                have hb7 := HB5.out.setCell (p := ⟨w4.heap.size, 1, none⟩) (Nat.le_refl _) (.string u.tx)
                have hS7 := HS4.out.below hb7
                have hB7 := HB4.out.trans (hb7.mono hs4)
                have hs7 := hB7.size
                clear fz5 k0 k1 k2 hblk5 hS5 hB5 hs5 HS4 HB4 HB5 hb7 hbin5 hgb e0 e1 hk1
                generalize W5.setCell ⟨w4.heap.size, 1, none⟩ (.string u.tx) = W7 at *
                go_wp2_with (at_builtin; refine wpList_append_own _ rfl _ _ 47 rfl w.heap.size 50 j0 (.agg #[.bool false, .string ⟨#[]⟩, .slice none 0 0]) 3 48 Tryz.underlying47 hj hy0 hy1 hy2 rfl (by decide) _ _ _ rfl (hS7.own.row.alloc _) ⟨W7.heap.size, 0, none⟩ 1 1 [.bool true, .string u.tx, .slice (some ⟨gl, 0, none⟩) (line.length + 1) lcap] rfl rfl (cell3_new _ _ _ _ _) (by intro u hu; simp only [List.mem_cons, List.not_mem_nil, or_false] at hu; rcases hu with rfl | rfl | rfl <;> rfl) (by unfold maxLen; omega) (by omega) (by simp; omega) ?_; intro v6 w6 hO6 hg6 hn6; clear hn6; have hS8 := (hS7.below (below1 W7 (.cells #[.bool true, .string u.tx, .slice (some ⟨gl, 0, none⟩) (line.length + 1) lcap] 50))).push true u.tx hO6 hg6; have hB8 := (hB7.alloc hs7 _).grown hg6 (by simp; omega) (fun j e => (hS7.own.row.lt j e).1))
                go_roundg (n - (k + 1))
                case rel => exact ⟨k + 1, _, _, [], by omega, by go_num, rfl, HQ, by first | (simp; done) | (simp; omega), Nat.zero_le _, by rw [toksN_snoc, List.length_append]; simp only [List.length_cons, List.length_nil]; omega, hS8, hB8⟩
                case measure => omega
            · have HQ := Lib.hid (HR3.out ⟨#[]⟩ (nameB_short hlen))
              have j3 : ¬ (1 : Int) < (bs.length : Int) := by omega
              clear HR3 hlen hbin5
              go_wp2_with (at_builtin; refine wpList_append_own _ rfl _ _ 47 rfl w.heap.size 50 j0 (.agg #[.bool false, .string ⟨#[]⟩, .slice none 0 0]) 3 48 Tryz.underlying47 hj hy0 hy1 hy2 rfl (by decide) _ _ _ rfl (hS5.own.row.alloc _) ⟨W5.heap.size, 0, none⟩ 1 1 [.bool true, .string ⟨#[]⟩, .slice (some ⟨gl, 0, none⟩) (line.length + 1) lcap] rfl rfl (cell3_new _ _ _ _ _) (by intro u hu; simp only [List.mem_cons, List.not_mem_nil, or_false] at hu; rcases hu with rfl | rfl | rfl <;> rfl) (by unfold maxLen; omega) (by omega) (by simp; omega) ?_; intro v6 w6 hO6 hg6 hn6; clear hn6; have hS6 := (hS5.below (below1 W5 (.cells #[.bool true, .string ⟨#[]⟩, .slice (some ⟨gl, 0, none⟩) (line.length + 1) lcap] 50))).push true ⟨#[]⟩ hO6 hg6; have hB6 := (hB5.alloc hs5 _).grown hg6 (by simp; omega) (fun j e => (hS5.own.row.lt j e).1))
              go_roundg (n - (k + 1))
              case rel => exact ⟨k + 1, _, _, [], by omega, by go_num, rfl, HQ, by first | (simp; done) | (simp; omega), Nat.zero_le _, by rw [toksN_snoc, List.length_append]; simp only [List.length_cons, List.length_nil]; omega, hS6, hB6⟩
              case measure => omega
    · obtain rfl : k = n := by omega
      have HA := Lib.hid (RowsAt.all (ts := ts) (out := rs) (line := line) (by rw [HN.out]; exact HR.out))
      go_wp2
      go_ret
      rw [HA.out]
      exact ⟨⟨_, vs, rfl, hS.drop⟩, hbx⟩

end Go.Proofs.YtaodjipnffgihaaGreat
