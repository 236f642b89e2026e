/- Rows without runs that say nothing; whether two lists say the same: the document's answer. -/
import Derived.Test.YtpomcdolpmbhdaaSaysR
namespace Go.Proofs.Ytpomcdolpmbhdaa
open Go.RowKit

def tellsB (r : Rz) : Bool := r.d || decide (0 < (bareL r).length)
def lessS (rs : List Rz) : List Rz := rs.filter tellsB
theorem lessS_snoc {rs : List Rz} {k : Nat} {r : Rz} (h : rs[k]? = some r) : lessS (rs.take (k + 1)) = lessS (rs.take k) ++ if tellsB r then [r] else [] := by
  unfold lessS
  rw [List.take_add_one, h, List.filter_append]
  congr 1
  show List.filter tellsB [r] = _
  cases h2 : tellsB r <;> simp [h2]
theorem lessS_len (rs : List Rz) : (lessS rs).length ≤ rs.length := List.length_filter_le _ _

/-- A list of rows that the call made, whose tokens lie below B. -/
structure PtrRz (W : World) (B base : Nat) (v : Value) (qs : List Rz) (vs : List Value) : Prop where
  len : qs.length = vs.length
  row : W.ownsRow base 28 3 v qs.length (rzVals qs vs)
  ts : ∀ (i : Nat) (r : Rz) (u : Value), qs[i]? = some r → vs[i]? = some u → ∃ a cap, u = .slice a r.ts.length cap ∧ ToksAt W B a r.ts
theorem PtrRz.nil (W : World) (B base : Nat) : PtrRz W B base (.slice none 0 0) [] [] := ⟨rfl, World.ownsRow_nil _ _ _ _, fun i r u h _ => by simp at h⟩
theorem PtrRz.below {W W' : World} {B base : Nat} {v : Value} {qs : List Rz} {vs : List Value} (h : PtrRz W B base v qs vs) (hb : Below W.heap.size W W') (hB : B ≤ W.heap.size) : PtrRz W' B base v qs vs :=
  ⟨h.len, row_below h.row hb, fun i r u h1 h2 => by
    obtain ⟨a, cap, e, ht⟩ := h.ts i r u h1 h2
    exact ⟨a, cap, e, ht.below (hb.mono hB)⟩⟩
theorem PtrRz.in {W : World} {B base : Nat} {v : Value} {qs : List Rz} {vs : List Value} (h : PtrRz W B base v qs vs) (hB : B ≤ W.heap.size) : ∃ a cap, v = .slice a qs.length cap ∧ RzIn W a qs := by
  obtain ⟨a, cap, rfl⟩ := row_shape h.row
  refine ⟨a, cap, rfl, fun hp => ?_⟩
  obtain ⟨g, rfl, hg, hc⟩ := row_pos hp h.row
  refine ⟨g, 0, rfl, hg, fun i r hr => ?_⟩
  obtain ⟨u, hu⟩ : ∃ u, vs[i]? = some u := ⟨_, List.getElem?_eq_getElem (by rw [← h.len]; exact (List.getElem?_eq_some_iff.1 hr).1)⟩
  obtain ⟨h1, h2, h3⟩ := rzVals_get hr hu
  obtain ⟨a', cap', rfl, ht⟩ := h.ts i r u hr hu
  rw [Nat.zero_add]
  exact ⟨hc _ _ h1, hc _ _ h2, a', cap', hc _ _ h3, ht.mono hB⟩

set_option maxRecDepth 100000 in
set_option maxHeartbeats 4000000 in
theorem rless_any (n cap : Nat) (a : Option Addr) (w : World) (hn2 : n * 48 ≤ 140737488355328) (rs : List Rz) (hn : rs.length = n) (hts : ∀ r ∈ rs, r.ts.length * 48 ≤ 140737488355328) (hT : RzIn w a rs) :
    Calls Try.prog 37 #[.slice a n cap] w fun e w' => (∃ v vs, e = .returned v ∧ PtrRz w' w.heap.size w.heap.size v (lessS rs) vs) ∧ Below w.heap.size w w' := by
  obtain ⟨j0, hj, hy0, hy1, hy2⟩ := info_parts infoRow
  have HN := Lib.hid hn
  have HT := Lib.hid hT
  have HS := Lib.hid hts
  clear hn hT hts
  go_enter Try.func37, Try.ntmps37
  go_wp2
  go_loopg [3, 4] n (fun g v i wx => ∃ (k : Nat) (vs : List Value), k ≤ n ∧ i = .int .i64 k ∧ g = n - k ∧ PtrRz wx w.heap.size w.heap.size v (lessS (rs.take k)) vs ∧ Below w.heap.size w wx)
  case atStart => exact ⟨0, [], Nat.zero_le _, rfl, rfl, PtrRz.nil _ _ _, Below.refl _ _⟩
  case round =>
    obtain ⟨k, vs, hk, rfl, rfl, hown, hbx⟩ := hrel
    by_cases hlt : k < n
    · obtain ⟨r, hr⟩ : ∃ r, rs[k]? = some r := ⟨_, List.getElem?_eq_getElem (by rw [HN.out]; exact hlt)⟩
      obtain ⟨b, o, rfl, hg1, hrz⟩ := HT.out (by rw [HN.out]; omega)
      have hrzx := hrz.below hbx hg1
      obtain ⟨c0, c1, ta, tcap, c2, htk⟩ := hrzx k r hr
      have hrl := HS.out r (List.mem_of_getElem? hr)
      have htake := Lib.hid (lessS_snoc hr)
      have hlk : (lessS (rs.take k)).length ≤ k := Nat.le_trans (lessS_len _) (by rw [List.length_take]; exact Nat.min_le_left _ _)
      have hbs := hbx.size
      have CB := rbare_own (ts := r.ts) (bs := bareL r) (cap := tcap) (w := wr) rfl rfl rfl hrl (htk.mono hbs)
      have j1 : (k : Int) < (n : Int) := by omega
      have j2 : (0 : Int) ≤ (k : Int) := by omega
      obtain ⟨m, hm⟩ : ∃ m, (bareL r).length = m := ⟨_, rfl⟩
      have HTE : Hid (tellsB r = (r.d || decide (0 < m))) := Lib.hid (by unfold tellsB; rw [hm])
      obtain ⟨qs, hqs⟩ : ∃ qs, lessS (rs.take k) = qs := ⟨_, rfl⟩
      rw [hm] at CB
      rw [hqs] at hown hlk htake
      clear hr hrz hrzx hm hqs
      obtain ⟨d, nm, ts⟩ := r
      simp only at c0 c1 c2 CB HTE htk
      have HTB := Lib.hid htk
      go_wp2_with fail
      refine CB.mono ?_
      rintro e w1 ⟨⟨a', cap', rfl, hcap, -⟩, hb1⟩
      have hb1' := hb1.mono hbs
      have e0 := (hb1'.cell (p := ⟨b, o + k * 3, none⟩) hg1).trans c0
      have e1 := (hb1'.cell (p := ⟨b, o + k * 3 + 1, none⟩) hg1).trans c1
      have e2 := (hb1'.cell (p := ⟨b, o + k * 3 + 2, none⟩) hg1).trans c2
      have hB1 := hbx.trans hb1'
      have hs1 := hB1.size
      have hown1 := hown.below hb1 hbs
      clear hown CB c0 c1 c2 htk
      cases d
      · by_cases hm0 : 0 < m
        · have b0 : (0 : Int) < (m : Int) := by omega
          have HQ : Hid (lessS (rs.take (k + 1)) = qs ++ [⟨false, nm, ts⟩]) := Lib.hid (by rw [htake.out, HTE.out]; simp [hm0])
          clear htake HTE
          go_wp2_with (at_builtin; refine wpList_append_own _ rfl _ _ 23 rfl w.heap.size 28 j0 (.agg #[.bool false, .string ⟨#[]⟩, .slice none 0 0]) 3 48 Try.underlying23 hj hy0 hy1 hy2 rfl (by decide) _ _ _ rfl (hown1.row.alloc _) ⟨w1.heap.size, 0, none⟩ 1 1 [.bool false, .string nm, .slice ta ts.length tcap] rfl rfl (cell3_new _ _ _ _ _) (by intro u hu; simp only [List.mem_cons, List.not_mem_nil, or_false] at hu; rcases hu with rfl | rfl | rfl <;> rfl) (by unfold maxLen; omega) (by omega) (by simp; omega) ?_; intro v2 w5 hown5 hgrow5 hn5; clear hn5; have hB5 := (hB1.alloc hs1 _).grown hgrow5 (by simp; omega) (fun j e => (hown1.row.lt j e).1); have hb5 := (below1 w1 (.cells #[.bool false, .string nm, .slice ta ts.length tcap] 28)))
          go_roundg (n - (k + 1))
          case rel =>
            refine ⟨k + 1, vs ++ [.slice ta ts.length tcap], by omega, by go_num, rfl, ?_, hB5⟩
            rw [HQ.out]
            have hlow : Below w.heap.size w1 w5 := ((below1 w1 _).mono hs1).grown hgrow5 (by simp; omega) (fun j e => (hown1.row.lt j e).1)
            refine ⟨by simp [hown1.len], ?_, fun i q u h1 h2 => ?_⟩
            · rw [List.length_append, rzVals_snoc _ _ _ _ hown1.len]
              exact hown5
            · by_cases hik : i < qs.length
              · rw [List.getElem?_append_left (by omega)] at h1
                rw [List.getElem?_append_left (by have := hown1.len; omega)] at h2
                obtain ⟨a2, cap2, e, ht⟩ := hown1.ts i q u h1 h2
                exact ⟨a2, cap2, e, ht.below hlow⟩
              · have hlt1 := (List.getElem?_eq_some_iff.1 h1).1
                rw [List.length_append] at hlt1
                simp only [List.length_cons, List.length_nil] at hlt1
                obtain rfl : i = qs.length := by omega
                rw [List.getElem?_append_right (by omega), Nat.sub_self] at h1
                rw [List.getElem?_append_right (by have := hown1.len; omega), ← hown1.len, Nat.sub_self] at h2
                simp only [List.getElem?_cons_zero, Option.some.injEq] at h1 h2
                subst h1 h2
                exact ⟨ta, tcap, rfl, HTB.out.below (hb1'.trans hlow)⟩
          case measure => omega
        · have b0 : ¬ (0 : Int) < (m : Int) := by omega
          have HQ : Hid (lessS (rs.take (k + 1)) = qs) := Lib.hid (by rw [htake.out, HTE.out]; simp [hm0])
          clear htake HTE
          go_wp2
          go_roundg (n - (k + 1))
          case rel => exact ⟨k + 1, vs, by omega, by go_num, rfl, by rw [HQ.out]; exact hown1, hB1⟩
          case measure => omega
      · have HQ : Hid (lessS (rs.take (k + 1)) = qs ++ [⟨true, nm, ts⟩]) := Lib.hid (by rw [htake.out, HTE.out]; simp)
        clear htake HTE
        go_wp2_with (at_builtin; refine wpList_append_own _ rfl _ _ 23 rfl w.heap.size 28 j0 (.agg #[.bool false, .string ⟨#[]⟩, .slice none 0 0]) 3 48 Try.underlying23 hj hy0 hy1 hy2 rfl (by decide) _ _ _ rfl (hown1.row.alloc _) ⟨w1.heap.size, 0, none⟩ 1 1 [.bool true, .string nm, .slice ta ts.length tcap] rfl rfl (cell3_new _ _ _ _ _) (by intro u hu; simp only [List.mem_cons, List.not_mem_nil, or_false] at hu; rcases hu with rfl | rfl | rfl <;> rfl) (by unfold maxLen; omega) (by omega) (by simp; omega) ?_; intro v2 w5 hown5 hgrow5 hn5; clear hn5; have hB5 := (hB1.alloc hs1 _).grown hgrow5 (by simp; omega) (fun j e => (hown1.row.lt j e).1); have hb5 := (below1 w1 (.cells #[.bool true, .string nm, .slice ta ts.length tcap] 28)))
        go_roundg (n - (k + 1))
        case rel =>
          refine ⟨k + 1, vs ++ [.slice ta ts.length tcap], by omega, by go_num, rfl, ?_, hB5⟩
          rw [HQ.out]
          have hlow : Below w.heap.size w1 w5 := ((below1 w1 _).mono hs1).grown hgrow5 (by simp; omega) (fun j e => (hown1.row.lt j e).1)
          refine ⟨by simp [hown1.len], ?_, fun i q u h1 h2 => ?_⟩
          · rw [List.length_append, rzVals_snoc _ _ _ _ hown1.len]
            exact hown5
          · by_cases hik : i < qs.length
            · rw [List.getElem?_append_left (by omega)] at h1
              rw [List.getElem?_append_left (by have := hown1.len; omega)] at h2
              obtain ⟨a2, cap2, e, ht⟩ := hown1.ts i q u h1 h2
              exact ⟨a2, cap2, e, ht.below hlow⟩
            · have hlt1 := (List.getElem?_eq_some_iff.1 h1).1
              rw [List.length_append] at hlt1
              simp only [List.length_cons, List.length_nil] at hlt1
              obtain rfl : i = qs.length := by omega
              rw [List.getElem?_append_right (by omega), Nat.sub_self] at h1
              rw [List.getElem?_append_right (by have := hown1.len; omega), ← hown1.len, Nat.sub_self] at h2
              simp only [List.getElem?_cons_zero, Option.some.injEq] at h1 h2
              subst h1 h2
              exact ⟨ta, tcap, rfl, HTB.out.below (hb1'.trans hlow)⟩
        case measure => omega
    · obtain rfl : k = n := by omega
      go_wp2
      go_ret
      rw [List.take_of_length_le (by rw [HN.out]; exact Nat.le_refl _)] at hown
      exact ⟨⟨_, vs, rfl, hown⟩, hbx⟩

end Go.Proofs.Ytpomcdolpmbhdaa
