/- Several texts laid together. -/
import Derived.Test.YtpomcdolpmbhdaaSaysR
import Derived.Test.YtpomcdolpmbhdaaDepA
import Derived.Test.YtpomcdolpmbhdaaLnSays
import Derived.Outline
import Derived.Test.YtpomcdolpmbhdaaLnRow
import Derived.Deep.RegionHeld3
import Derived.Deep.DeepCutAuto
import Derived.Deep.RegionWith
import Derived.Deep.LoopGhost
import Derived.WalkMore

namespace Go.Proofs.Ytpomcdolpmbhdaa
open Go.RowKit

def tellsB (r : Rz) : Bool := r.d || decide (0 < (bareL r).length)
def lessS (rs : List Rz) : List Rz := rs.filter tellsB
theorem lessS_snoc {rs : List Rz} {k : Nat} {r : Rz} (h : rs[k]? = some r) : lessS (rs.take (k + 1)) = lessS (rs.take k) ++ if tellsB r then [r] else [] := by
  unfold lessS
  rw [List.take_add_one, h, List.filter_append]
  congr 1
  show List.filter tellsB [r] = _
  cases h2 : tellsB r <;> simp [h2]
theorem lessS_len (rs : List Rz) : (lessS rs).length ≤ rs.length := List.length_filter_le _ _

/-- A list of rows that the call made, whose tokens lie below B. -/
structure PtrRz (W : World) (B base : Nat) (v : Value) (qs : List Rz) (vs : List Value) : Prop where
  len : qs.length = vs.length
  row : W.ownsRow base 28 3 v qs.length (rzVals qs vs)
  ts : ∀ (i : Nat) (r : Rz) (u : Value), qs[i]? = some r → vs[i]? = some u → ∃ a cap, u = .slice a r.ts.length cap ∧ ToksAt W B a r.ts
theorem PtrRz.nil (W : World) (B base : Nat) : PtrRz W B base (.slice none 0 0) [] [] := ⟨rfl, World.ownsRow_nil _ _ _ _, fun i r u h _ => by simp at h⟩
theorem PtrRz.below {W W' : World} {B base : Nat} {v : Value} {qs : List Rz} {vs : List Value} (h : PtrRz W B base v qs vs) (hb : Below W.heap.size W W') (hB : B ≤ W.heap.size) : PtrRz W' B base v qs vs :=
  ⟨h.len, row_below h.row hb, fun i r u h1 h2 => by
    obtain ⟨a, cap, e, ht⟩ := h.ts i r u h1 h2
    exact ⟨a, cap, e, ht.below (hb.mono hB)⟩⟩
theorem PtrRz.in {W : World} {B base : Nat} {v : Value} {qs : List Rz} {vs : List Value} (h : PtrRz W B base v qs vs) (hB : B ≤ W.heap.size) : ∃ a cap, v = .slice a qs.length cap ∧ RzIn W a qs := by
  obtain ⟨a, cap, rfl⟩ := row_shape h.row
  refine ⟨a, cap, rfl, fun hp => ?_⟩
  obtain ⟨g, rfl, hg, hc⟩ := row_pos hp h.row
  refine ⟨g, 0, rfl, hg, fun i r hr => ?_⟩
  obtain ⟨u, hu⟩ : ∃ u, vs[i]? = some u := ⟨_, List.getElem?_eq_getElem (by rw [← h.len]; exact (List.getElem?_eq_some_iff.1 hr).1)⟩
  obtain ⟨h1, h2, h3⟩ := rzVals_get hr hu
  obtain ⟨a', cap', rfl, ht⟩ := h.ts i r u hr hu
  rw [Nat.zero_add]
  exact ⟨hc _ _ h1, hc _ _ h2, a', cap', hc _ _ h3, ht.mono hB⟩

set_option maxRecDepth 100000 in
set_option maxHeartbeats 4000000 in
theorem rless_any (n cap : Nat) (a : Option Addr) (w : World) (hn2 : n * 48 ≤ 140737488355328) (rs : List Rz) (hn : rs.length = n) (hts : ∀ r ∈ rs, r.ts.length * 48 ≤ 140737488355328) (hT : RzIn w a rs) :
    Calls Try.prog 37 #[.slice a n cap] w fun e w' => (∃ v vs, e = .returned v ∧ PtrRz w' w.heap.size w.heap.size v (lessS rs) vs) ∧ Below w.heap.size w w' := by
  obtain ⟨j0, hj, hy0, hy1, hy2⟩ := info_parts infoRow
  have HN := Lib.hid hn
  have HT := Lib.hid hT
  have HS := Lib.hid hts
  clear hn hT hts
  go_enter Try.func37, Try.ntmps37
  go_wp2
  go_loopg [3, 4] n (fun g v i wx => ∃ (k : Nat) (vs : List Value), k ≤ n ∧ i = .int .i64 k ∧ g = n - k ∧ PtrRz wx w.heap.size w.heap.size v (lessS (rs.take k)) vs ∧ Below w.heap.size w wx)
  case atStart => exact ⟨0, [], Nat.zero_le _, rfl, rfl, PtrRz.nil _ _ _, Below.refl _ _⟩
  case round =>
    obtain ⟨k, vs, hk, rfl, rfl, hown, hbx⟩ := hrel
    by_cases hlt : k < n
    · obtain ⟨r, hr⟩ : ∃ r, rs[k]? = some r := ⟨_, List.getElem?_eq_getElem (by rw [HN.out]; exact hlt)⟩
      obtain ⟨b, o, rfl, hg1, hrz⟩ := HT.out (by rw [HN.out]; omega)
      have hrzx := hrz.below hbx hg1
      obtain ⟨c0, c1, ta, tcap, c2, htk⟩ := hrzx k r hr
      have hrl := HS.out r (List.mem_of_getElem? hr)
      have htake := Lib.hid (lessS_snoc hr)
      have hlk : (lessS (rs.take k)).length ≤ k := Nat.le_trans (lessS_len _) (by rw [List.length_take]; exact Nat.min_le_left _ _)
      have hbs := hbx.size
      have CB := rbare_own (ts := r.ts) (bs := bareL r) (cap := tcap) (w := wr) rfl rfl rfl hrl (htk.mono hbs)
      have j1 : (k : Int) < (n : Int) := by omega
      have j2 : (0 : Int) ≤ (k : Int) := by omega
      obtain ⟨m, hm⟩ : ∃ m, (bareL r).length = m := ⟨_, rfl⟩
      have HTE : Hid (tellsB r = (r.d || decide (0 < m))) := Lib.hid (by unfold tellsB; rw [hm])
      obtain ⟨qs, hqs⟩ : ∃ qs, lessS (rs.take k) = qs := ⟨_, rfl⟩
      rw [hm] at CB
      rw [hqs] at hown hlk htake
      clear hr hrz hrzx hm hqs
      obtain ⟨d, nm, ts⟩ := r
      simp only at c0 c1 c2 CB HTE htk
      have HTB := Lib.hid htk
      go_wp2_with fail
      refine CB.mono ?_
      rintro e w1 ⟨⟨a', cap', rfl, hcap, -⟩, hb1⟩
      have hb1' := hb1.mono hbs
      have e0 := (hb1'.cell (p := ⟨b, o + k * 3, none⟩) hg1).trans c0
      have e1 := (hb1'.cell (p := ⟨b, o + k * 3 + 1, none⟩) hg1).trans c1
      have e2 := (hb1'.cell (p := ⟨b, o + k * 3 + 2, none⟩) hg1).trans c2
      have hB1 := hbx.trans hb1'
      have hs1 := hB1.size
      have hown1 := hown.below hb1 hbs
      clear hown CB c0 c1 c2 htk
      cases d
      · by_cases hm0 : 0 < m
        · have b0 : (0 : Int) < (m : Int) := by omega
          have HQ : Hid (lessS (rs.take (k + 1)) = qs ++ [⟨false, nm, ts⟩]) := Lib.hid (by rw [htake.out, HTE.out]; simp [hm0])
          clear htake HTE
          go_wp2_with (at_builtin; refine wpList_append_own _ rfl _ _ 23 rfl w.heap.size 28 j0 (.agg #[.bool false, .string ⟨#[]⟩, .slice none 0 0]) 3 48 Try.underlying23 hj hy0 hy1 hy2 rfl (by decide) _ _ _ rfl (hown1.row.alloc _) ⟨w1.heap.size, 0, none⟩ 1 1 [.bool false, .string nm, .slice ta ts.length tcap] rfl rfl (cell3_new _ _ _ _ _) (by intro u hu; simp only [List.mem_cons, List.not_mem_nil, or_false] at hu; rcases hu with rfl | rfl | rfl <;> rfl) (by unfold maxLen; omega) (by omega) (by simp; omega) ?_; intro v2 w5 hown5 hgrow5 hn5; clear hn5; have hB5 := (hB1.alloc hs1 _).grown hgrow5 (by simp; omega) (fun j e => (hown1.row.lt j e).1); have hb5 := (below1 w1 (.cells #[.bool false, .string nm, .slice ta ts.length tcap] 28)))
          go_roundg (n - (k + 1))
          case rel =>
            refine ⟨k + 1, vs ++ [.slice ta ts.length tcap], by omega, by go_num, rfl, ?_, hB5⟩
            rw [HQ.out]
            have hlow : Below w.heap.size w1 w5 := ((below1 w1 _).mono hs1).grown hgrow5 (by simp; omega) (fun j e => (hown1.row.lt j e).1)
            refine ⟨by simp [hown1.len], ?_, fun i q u h1 h2 => ?_⟩
            · rw [List.length_append, rzVals_snoc _ _ _ _ hown1.len]
              exact hown5
            · by_cases hik : i < qs.length
              · rw [List.getElem?_append_left (by omega)] at h1
                rw [List.getElem?_append_left (by have := hown1.len; omega)] at h2
                obtain ⟨a2, cap2, e, ht⟩ := hown1.ts i q u h1 h2
                exact ⟨a2, cap2, e, ht.below hlow⟩
              · have hlt1 := (List.getElem?_eq_some_iff.1 h1).1
                rw [List.length_append] at hlt1
                simp only [List.length_cons, List.length_nil] at hlt1
                obtain rfl : i = qs.length := by omega
                rw [List.getElem?_append_right (by omega), Nat.sub_self] at h1
                rw [List.getElem?_append_right (by have := hown1.len; omega), ← hown1.len, Nat.sub_self] at h2
                simp only [List.getElem?_cons_zero, Option.some.injEq] at h1 h2
                subst h1 h2
                exact ⟨ta, tcap, rfl, HTB.out.below (hb1'.trans hlow)⟩
          case measure => omega
        · have b0 : ¬ (0 : Int) < (m : Int) := by omega
          have HQ : Hid (lessS (rs.take (k + 1)) = qs) := Lib.hid (by rw [htake.out, HTE.out]; simp [hm0])
          clear htake HTE
          go_wp2
          go_roundg (n - (k + 1))
          case rel => exact ⟨k + 1, vs, by omega, by go_num, rfl, by rw [HQ.out]; exact hown1, hB1⟩
          case measure => omega
      · have HQ : Hid (lessS (rs.take (k + 1)) = qs ++ [⟨true, nm, ts⟩]) := Lib.hid (by rw [htake.out, HTE.out]; simp)
        clear htake HTE
        go_wp2_with (at_builtin; refine wpList_append_own _ rfl _ _ 23 rfl w.heap.size 28 j0 (.agg #[.bool false, .string ⟨#[]⟩, .slice none 0 0]) 3 48 Try.underlying23 hj hy0 hy1 hy2 rfl (by decide) _ _ _ rfl (hown1.row.alloc _) ⟨w1.heap.size, 0, none⟩ 1 1 [.bool true, .string nm, .slice ta ts.length tcap] rfl rfl (cell3_new _ _ _ _ _) (by intro u hu; simp only [List.mem_cons, List.not_mem_nil, or_false] at hu; rcases hu with rfl | rfl | rfl <;> rfl) (by unfold maxLen; omega) (by omega) (by simp; omega) ?_; intro v2 w5 hown5 hgrow5 hn5; clear hn5; have hB5 := (hB1.alloc hs1 _).grown hgrow5 (by simp; omega) (fun j e => (hown1.row.lt j e).1); have hb5 := (below1 w1 (.cells #[.bool true, .string nm, .slice ta ts.length tcap] 28)))
        go_roundg (n - (k + 1))
        case rel =>
          refine ⟨k + 1, vs ++ [.slice ta ts.length tcap], by omega, by go_num, rfl, ?_, hB5⟩
          rw [HQ.out]
          have hlow : Below w.heap.size w1 w5 := ((below1 w1 _).mono hs1).grown hgrow5 (by simp; omega) (fun j e => (hown1.row.lt j e).1)
          refine ⟨by simp [hown1.len], ?_, fun i q u h1 h2 => ?_⟩
          · rw [List.length_append, rzVals_snoc _ _ _ _ hown1.len]
            exact hown5
          · by_cases hik : i < qs.length
            · rw [List.getElem?_append_left (by omega)] at h1
              rw [List.getElem?_append_left (by have := hown1.len; omega)] at h2
              obtain ⟨a2, cap2, e, ht⟩ := hown1.ts i q u h1 h2
              exact ⟨a2, cap2, e, ht.below hlow⟩
            · have hlt1 := (List.getElem?_eq_some_iff.1 h1).1
              rw [List.length_append] at hlt1
              simp only [List.length_cons, List.length_nil] at hlt1
              obtain rfl : i = qs.length := by omega
              rw [List.getElem?_append_right (by omega), Nat.sub_self] at h1
              rw [List.getElem?_append_right (by have := hown1.len; omega), ← hown1.len, Nat.sub_self] at h2
              simp only [List.getElem?_cons_zero, Option.some.injEq] at h1 h2
              subst h1 h2
              exact ⟨ta, tcap, rfl, HTB.out.below (hb1'.trans hlow)⟩
        case measure => omega
    · obtain rfl : k = n := by omega
      go_wp2
      go_ret
      rw [List.take_of_length_le (by rw [HN.out]; exact Nat.le_refl _)] at hown
      exact ⟨⟨_, vs, rfl, hown⟩, hbx⟩

end Go.Proofs.Ytpomcdolpmbhdaa

namespace Go.Proofs.Ytpomcdolpmbhdaa
open Go.RowKit

theorem saysS_len (r : Rz) : (saysS r).length ≤ r.ts.length := by
  have h := bareS_len r.ts
  unfold saysS bareL
  split
  · split <;> rw [List.length_drop] <;> omega
  · exact h

def tokAl (s : Bool) (k : Nat) (t u : Tz) : Bool := t.k == u.k && t.tx.toList == u.tx.toList && !(!(t.sp == u.sp) && decide (0 < k) && s)
def toksAl (s : Bool) : Nat → List Tz → List Tz → Bool
  | k, t :: l, u :: m => tokAl s k t u && toksAl s (k + 1) l m
  | _, _, _ => true
def defB (r : Rz) : Bool := r.d && r.nm.toList == [100, 101, 102, 105, 110, 101]
def rowAl (keep : Bool) (p q : Rz) : Bool := p.d == q.d && p.nm.toList == q.nm.toList && (saysS p).length == (saysS q).length && toksAl (keep || defB p) 0 (saysS p) (saysS q)
def rowsAl (keep : Bool) : List Rz → List Rz → Bool
  | p :: x, q :: y => rowAl keep p q && rowsAl keep x y
  | _, _ => true
/-- Do two lists of rows say the same? -/
def alikeS (a b : List Rz) (keep : Bool) : Bool := (lessS a).length == (lessS b).length && rowsAl keep (lessS a) (lessS b)

theorem toksAl_step {s : Bool} {k : Nat} {l m : List Tz} {t u : Tz} (h : l[k]? = some t) (h2 : m[k]? = some u) : toksAl s k (l.drop k) (m.drop k) = (tokAl s k t u && toksAl s (k + 1) (l.drop (k + 1)) (m.drop (k + 1))) := by
  have e1 : l.drop k = t :: l.drop (k + 1) := by
    rw [List.drop_eq_getElem_cons (List.getElem?_eq_some_iff.1 h).1, (List.getElem?_eq_some_iff.1 h).2]
  have e2 : m.drop k = u :: m.drop (k + 1) := by
    rw [List.drop_eq_getElem_cons (List.getElem?_eq_some_iff.1 h2).1, (List.getElem?_eq_some_iff.1 h2).2]
  rw [e1, e2, toksAl]
theorem toksAl_end {s : Bool} {k : Nat} {l m : List Tz} (h : l.length ≤ k) : toksAl s k (l.drop k) (m.drop k) = true := by
  rw [List.drop_eq_nil_of_le h]
  unfold toksAl
  rfl
theorem rowsAl_step {keep : Bool} {k : Nat} {x y : List Rz} {p q : Rz} (h : x[k]? = some p) (h2 : y[k]? = some q) : rowsAl keep (x.drop k) (y.drop k) = (rowAl keep p q && rowsAl keep (x.drop (k + 1)) (y.drop (k + 1))) := by
  have e1 : x.drop k = p :: x.drop (k + 1) := by
    rw [List.drop_eq_getElem_cons (List.getElem?_eq_some_iff.1 h).1, (List.getElem?_eq_some_iff.1 h).2]
  have e2 : y.drop k = q :: y.drop (k + 1) := by
    rw [List.drop_eq_getElem_cons (List.getElem?_eq_some_iff.1 h2).1, (List.getElem?_eq_some_iff.1 h2).2]
  rw [e1, e2, rowsAl]
theorem rowsAl_end {keep : Bool} {k : Nat} {x y : List Rz} (h : x.length ≤ k) : rowsAl keep (x.drop k) (y.drop k) = true := by
  rw [List.drop_eq_nil_of_le h]
  unfold rowsAl
  rfl

set_option maxRecDepth 100000 in
set_option maxHeartbeats 8000000 in
theorem rAlike_any (n1 n2 c1 c2 : Nat) (a1 a2 : Option Addr) (keep : Bool) (w : World) (rs qs : List Rz) (hn1 : rs.length = n1) (hn2 : qs.length = n2) (hb1 : n1 * 48 ≤ 140737488355328) (hb2 : n2 * 48 ≤ 140737488355328)
    (ht1 : ∀ r ∈ rs, r.ts.length * 48 ≤ 140737488355328) (ht2 : ∀ r ∈ qs, r.ts.length * 48 ≤ 140737488355328) (hT1 : RzIn w a1 rs) (hT2 : RzIn w a2 qs) :
    Calls Try.prog 20 #[.slice a1 n1 c1, .slice a2 n2 c2, .bool keep] w fun e w' => e = .returned (.bool (alikeS rs qs keep)) ∧ Below w.heap.size w w' := by
  have C1 := rless_any n1 c1 a1 w hb1 rs hn1 ht1 hT1
  have C2 := fun (w' : World) (hb : Below w.heap.size w w') => rless_any n2 c2 a2 w' hb2 qs hn2 ht2 (hT2.below hb)
  have HS1 := Lib.hid (fun (r : Rz) (h : r ∈ lessS rs) => ht1 r (List.mem_filter.1 h).1)
  have HS2 := Lib.hid (fun (r : Rz) (h : r ∈ lessS qs) => ht2 r (List.mem_filter.1 h).1)
  have hl1 : (lessS rs).length * 48 ≤ 140737488355328 := Nat.le_trans (Nat.mul_le_mul_right 48 (lessS_len rs)) (by rw [hn1]; exact hb1)
  have hl2 : (lessS qs).length * 48 ≤ 140737488355328 := Nat.le_trans (Nat.mul_le_mul_right 48 (lessS_len qs)) (by rw [hn2]; exact hb2)
  have HA : Hid (alikeS rs qs keep = ((lessS rs).length == (lessS qs).length && rowsAl keep (lessS rs) (lessS qs))) := Lib.hid rfl
  obtain ⟨X, hX⟩ : ∃ X, lessS rs = X := ⟨_, rfl⟩
  obtain ⟨Y, hY⟩ : ∃ Y, lessS qs = Y := ⟨_, rfl⟩
  obtain ⟨R, hR⟩ : ∃ R, alikeS rs qs keep = R := ⟨_, rfl⟩
  rw [hX] at C1 HS1 HA hl1
  rw [hY] at C2 HS2 HA hl2
  rw [hR] at HA ⊢
  clear hX hY hR hT1 hT2 ht1 ht2
  go_enter Try.func20, Try.ntmps20
  go_wp2_with fail
  refine C1.mono ?_
  rintro e w1 ⟨⟨v1, vs1, rfl, hp1⟩, hw1⟩
  go_wp2_with fail
  refine (C2 _ hw1).mono ?_
  rintro e w2 ⟨⟨v2, vs2, rfl, hp2⟩, hw2⟩
  have hwB := hw1.trans (hw2.mono hw1.size)
  obtain ⟨ax, cx, rfl, hI1⟩ := hp1.in hw1.size
  obtain ⟨ay, cy, rfl, hI2⟩ := hp2.in hw2.size
  have HI1 := Lib.hid (hI1.below hw2)
  have HI2 := Lib.hid hI2
  clear hp1 hp2 hI1 hI2 C1 C2
  by_cases hlen : X.length = Y.length
  · have HA2 : Hid (R = rowsAl keep X Y) := Lib.hid (by rw [HA.out, hlen]; simp)
    obtain ⟨n, hn⟩ : ∃ n, X.length = n := ⟨_, rfl⟩
    have hm : Y.length = n := by omega
    rw [hn] at hl1
    have HX := Lib.hid hn
    have HY := Lib.hid hm
    rw [hn, hm]
    have hne : ((n : Int) != (n : Int)) = false := by simp
    clear HA hlen hl2 hn hm
    go_wp2
    go_loopg [9] n (fun gh i wx => ∃ k : Nat, k ≤ n ∧ i = .int .i64 k ∧ gh = n - k ∧ Hid (R = rowsAl keep (X.drop k) (Y.drop k)) ∧ Below w2.heap.size w2 wx)
    case atStart => exact ⟨0, Nat.zero_le _, rfl, rfl, HA2, Below.refl _ _⟩
    case round =>
      obtain ⟨k, hk, rfl, rfl, HK, hbx⟩ := hrel
      by_cases hlt : k < n
      · obtain ⟨p, hp⟩ : ∃ r, X[k]? = some r := ⟨_, List.getElem?_eq_getElem (by rw [HX.out]; exact hlt)⟩
        obtain ⟨q, hq⟩ : ∃ r, Y[k]? = some r := ⟨_, List.getElem?_eq_getElem (by rw [HY.out]; exact hlt)⟩
        obtain ⟨b1, o1, rfl, hg1, hz1⟩ := HI1.out (by rw [HX.out]; omega)
        obtain ⟨b2, o2, rfl, hg2, hz2⟩ := HI2.out (by rw [HY.out]; omega)
        obtain ⟨c0, c1', t1, tc1, c2', hk1⟩ := (hz1.below hbx hg1) k p hp
        obtain ⟨d0, d1, t2, tc2, d2, hk2⟩ := (hz2.below hbx hg2) k q hq
        have hpl := HS1.out p (List.mem_of_getElem? hp)
        have hql := HS2.out q (List.mem_of_getElem? hq)
        have hst := HK.out
        rw [rowsAl_step hp hq] at hst
        have HK2 := Lib.hid hst
        have hbs := hbx.size
        have CP := rSays_any p t1 tc1 wr hpl (hk1.mono hbs)
        have HQT := Lib.hid hk2
        have hc : ∀ (W : World), Below wr.heap.size wr W → W.cell? ⟨b1, o1 + k * 3, none⟩ = some (.bool p.d) ∧ W.cell? ⟨b1, o1 + k * 3 + 1, none⟩ = some (.string p.nm) ∧ W.cell? ⟨b2, o2 + k * 3, none⟩ = some (.bool q.d) ∧ W.cell? ⟨b2, o2 + k * 3 + 1, none⟩ = some (.string q.nm) ∧ W.cell? ⟨b2, o2 + k * 3 + 2, none⟩ = some (.slice t2 q.ts.length tc2) := fun W hW => by
          have e1 : ∀ z, W.cell? ⟨b1, z, none⟩ = wr.cell? ⟨b1, z, none⟩ := fun z => hW.cell (p := ⟨b1, z, none⟩) (Nat.lt_of_lt_of_le hg1 hbs)
          have e2 : ∀ z, W.cell? ⟨b2, z, none⟩ = wr.cell? ⟨b2, z, none⟩ := fun z => hW.cell (p := ⟨b2, z, none⟩) (Nat.lt_of_lt_of_le hg2 hbs)
          exact ⟨(e1 _).trans c0, (e1 _).trans c1', (e2 _).trans d0, (e2 _).trans d1, (e2 _).trans d2⟩
        have HC := Lib.hid hc
        have j1 : (k : Int) < (n : Int) := by omega
        have j0 : (0 : Int) ≤ (k : Int) := by omega
        obtain ⟨LP, hLP⟩ : ∃ L, saysS p = L := ⟨_, rfl⟩
        obtain ⟨LQ, hLQ⟩ : ∃ L, saysS q = L := ⟨_, rfl⟩
        have HRA : Hid (rowAl keep p q = (p.d == q.d && p.nm.toList == q.nm.toList && LP.length == LQ.length && toksAl (keep || defB p) 0 LP LQ)) := Lib.hid (by unfold rowAl; rw [hLP, hLQ])
        rw [hLP] at CP
        have hLs : LP.length ≤ 140737488355328 := by
          have := saysS_len p
          rw [hLP] at this; omega
        clear hp hq hz1 hz2 hk1 hk2 hst HK hc hLP
        go_wp2_with fail
        refine CP.mono ?_
        rintro e w3 ⟨⟨al, cl, rfl, hl3⟩, hb3⟩
        obtain ⟨_, _, d0', d1', d2'⟩ := HC.out w3 hb3
        have CQ := rSays_any q t2 tc2 w3 hql (by exact (HQT.out.below (hb3.mono hbs)).mono (Nat.le_trans hbs hb3.size))
        rw [hLQ] at CQ
        clear hLQ c0 c1' c2' d0 d1 d2 CP
        go_wp2_with fail
        refine CQ.mono ?_
        rintro e w4 ⟨⟨am, cm, rfl, hm4⟩, hb4⟩
        have hb34 : Below wr.heap.size wr w4 := hb3.trans (hb4.mono hb3.size)
        obtain ⟨e0, e1, f0, f1, f2⟩ := HC.out w4 hb34
        have hB4 : Below w.heap.size w w4 := hwB.trans ((hbx.mono hwB.size).trans (hb34.mono (Nat.le_trans hwB.size hbs)))
        have hx4 : Below w2.heap.size w2 w4 := hbx.trans (hb34.mono hbs)
        have HL3 := Lib.hid (hl3.below hb4)
        have HM4 := Lib.hid hm4
        clear hl3 hm4 CQ d0' d1' d2' HC HQT
        by_cases hdd : p.d = q.d
        · have df : (!(p.d == q.d)) = false := by simp [hdd]
          by_cases hnn : (p.nm.toList == q.nm.toList) = true
          · have nf : (!(p.nm.toList == q.nm.toList)) = false := by rw [hnn]; rfl
            by_cases hll : LP.length = LQ.length
            · have lf : ((LP.length : Int) != (LQ.length : Int)) = false := by rw [hll]; simp
              have HK3 : Hid (R = (toksAl (keep || defB p) 0 (LP.drop 0) (LQ.drop 0) && rowsAl keep (X.drop (k + 1)) (Y.drop (k + 1)))) := Lib.hid (by rw [HK2.out, HRA.out, hnn, hll, hdd]; simp)
              have HLL := Lib.hid hll
              clear HK2 HRA hdd hnn hll
              go_wp2
              go_big_quiet (fail)
              go_wp2
              go_loopw [12] (fun i wx => ∃ j : Nat, j ≤ LP.length ∧ i = .int .i64 j ∧ Hid (R = (toksAl (keep || defB p) j (LP.drop j) (LQ.drop j) && rowsAl keep (X.drop (k + 1)) (Y.drop (k + 1)))) ∧ ∃ x, wx = w4.drewN x) (fun i _ => LP.length - (intOf i).toNat)
              case atStart => exact ⟨0, Nat.zero_le _, rfl, HK3, _, rfl⟩
              case round =>
                obtain ⟨j, hj, rfl, HJ0, x, rfl⟩ := hrel
                by_cases hjl : j < LP.length
                · obtain ⟨t, ht⟩ : ∃ t, LP[j]? = some t := ⟨_, List.getElem?_eq_getElem hjl⟩
                  obtain ⟨u, hu⟩ : ∃ t, LQ[j]? = some t := ⟨_, List.getElem?_eq_getElem (by rw [← HLL.out]; exact hjl)⟩
                  obtain ⟨gl, ol, rfl, _, hrl⟩ := HL3.out (by omega)
                  obtain ⟨gm, om, rfl, _, hrm⟩ := HM4.out (by rw [← HLL.out]; omega)
                  obtain ⟨l0, l1, -, -, l4⟩ := hrl j t ht
                  obtain ⟨m0, m1, -, -, m4⟩ := hrm j u hu
                  have hJ := HJ0.out
                  rw [toksAl_step ht hu, Bool.and_assoc] at hJ
                  have HJ := Lib.hid hJ
                  clear hrl hrm ht hu hJ HJ0
                  have i1 : (j : Int) < (LP.length : Int) := by omega
                  have i2 : (j : Int) < (LQ.length : Int) := by have := HLL.out; omega
                  have i0 : (0 : Int) ≤ (j : Int) := by omega
                  by_cases hkd : t.k = u.k
                  · have kf : (t.k != u.k) = false := by simp [hkd]
                    by_cases htx : (t.tx.toList == u.tx.toList) = true
                    · have tf : (!(t.tx.toList == u.tx.toList)) = false := by rw [htx]; rfl
                      have HG0 : tokAl (keep || defB p) j t u = !(!(t.sp == u.sp) && decide (0 < j) && (keep || defB p)) := by unfold tokAl; rw [htx, hkd]; simp
                      clear hkd
                      by_cases hsp : t.sp = u.sp
                      · have sf : (!(t.sp == u.sp)) = false := by simp [hsp]
                        have HG : tokAl (keep || defB p) j t u = true := by rw [HG0, sf]; rfl
                        clear HG0 hsp
                        have HN : Hid (R = (toksAl (keep || defB p) (j + 1) (LP.drop (j + 1)) (LQ.drop (j + 1)) && rowsAl keep (X.drop (k + 1)) (Y.drop (k + 1)))) := Lib.hid (by rw [HJ.out, HG, Bool.true_and])
                        clear HJ HG
                        go_wp2
                        go_big_quiet (fail)
                        go_wp2
                        go_big_quiet (fail)
                        go_wp2
                        refine ⟨⟨j + 1, by omega, by go_num, HN, _, rfl⟩, ?_⟩
                        simp [intOf]; omega
                      · have sf : (!(t.sp == u.sp)) = true := by simp [hsp]
                        by_cases hj0 : 0 < j
                        · have jf : (0 : Int) < (j : Int) := by omega
                          cases keep with
                          | true =>
                            have HG : tokAl (true || defB p) j t u = false := by rw [HG0, sf]; simp [hj0]
                            clear HG0 hsp
                            have HF : Hid (R = false) := Lib.hid (by rw [HJ.out, HG]; rfl)
                            clear HJ HG
                            go_wp2
                            go_big_quiet (fail)
                            go_wp2
                            go_big_quiet (fail)
                            go_wp2
                            go_ret
                            exact ⟨rb (by rw [HF.out]), by first | exact below_drewN hB4 _ | exact below_drewN (below_drewN hB4 _) _ | exact below_drewN (below_drewN (below_drewN hB4 _) _) _⟩
                          | false =>
                            cases hpd : p.d with
                            | false =>
                              have HG : tokAl (false || defB p) j t u = true := by rw [HG0]; unfold defB; rw [hpd]; simp
                              clear HG0 hsp
                              have HN : Hid (R = (toksAl (false || defB p) (j + 1) (LP.drop (j + 1)) (LQ.drop (j + 1)) && rowsAl false (X.drop (k + 1)) (Y.drop (k + 1)))) := Lib.hid (by rw [HJ.out, HG, Bool.true_and])
                              clear HJ HG
                              go_wp2
                              go_big_quiet (fail)
                              go_wp2
                              go_big_quiet (fail)
                              go_wp2
                              refine ⟨⟨j + 1, by omega, by go_num, HN, _, rfl⟩, ?_⟩
                              simp [intOf]; omega
                            | true =>
                              cases hnd : (p.nm.toList == [100, 101, 102, 105, 110, 101]) with
                              | false =>
                                have HG : tokAl (false || defB p) j t u = true := by rw [HG0]; unfold defB; rw [hpd, hnd]; simp
                                clear HG0 hsp
                                have HN : Hid (R = (toksAl (false || defB p) (j + 1) (LP.drop (j + 1)) (LQ.drop (j + 1)) && rowsAl false (X.drop (k + 1)) (Y.drop (k + 1)))) := Lib.hid (by rw [HJ.out, HG, Bool.true_and])
                                clear HJ HG
                                go_wp2
                                go_big_quiet (fail)
                                go_wp2
                                go_big_quiet (fail)
                                go_wp2
                                refine ⟨⟨j + 1, by omega, by go_num, HN, _, rfl⟩, ?_⟩
                                simp [intOf]; omega
                              | true =>
                                have HG : tokAl (false || defB p) j t u = false := by rw [HG0, sf]; unfold defB; rw [hpd, hnd]; simp [hj0]
                                clear HG0 hsp
                                have HF : Hid (R = false) := Lib.hid (by rw [HJ.out, HG]; rfl)
                                clear HJ HG
                                go_wp2
                                go_big_quiet (fail)
                                go_wp2
                                go_big_quiet (fail)
                                go_wp2
                                go_ret
                                exact ⟨rb (by rw [HF.out]), by first | exact below_drewN hB4 _ | exact below_drewN (below_drewN hB4 _) _ | exact below_drewN (below_drewN (below_drewN hB4 _) _) _⟩
                        · have jf : ¬ (0 : Int) < (j : Int) := by omega
                          have jg : decide ((0 : Int) < (j : Int)) = false := decide_eq_false jf
                          have HG : tokAl (keep || defB p) j t u = true := by rw [HG0]; simp [hj0]
                          clear HG0 hsp
                          have HN : Hid (R = (toksAl (keep || defB p) (j + 1) (LP.drop (j + 1)) (LQ.drop (j + 1)) && rowsAl keep (X.drop (k + 1)) (Y.drop (k + 1)))) := Lib.hid (by rw [HJ.out, HG, Bool.true_and])
                          clear HJ HG
                          go_wp2
                          go_big_quiet (fail)
                          go_wp2
                          go_big_quiet (fail)
                          go_wp2
                          refine ⟨⟨j + 1, by omega, by go_num, HN, _, rfl⟩, ?_⟩
                          simp [intOf]; omega
                    · have tf : (!(t.tx.toList == u.tx.toList)) = true := by simpa using htx
                      have HF : Hid (R = false) := Lib.hid (by rw [HJ.out]; unfold tokAl; rw [Bool.eq_false_iff.2 htx]; simp)
                      clear HJ hkd htx
                      go_wp2
                      go_big_quiet (fail)
                      go_wp2
                      go_ret
                      exact ⟨rb (by rw [HF.out]), by first | exact below_drewN hB4 _ | exact below_drewN (below_drewN hB4 _) _ | exact below_drewN (below_drewN (below_drewN hB4 _) _) _⟩
                  · have kf : (t.k != u.k) = true := by simp [hkd]
                    have HF : Hid (R = false) := Lib.hid (by rw [HJ.out]; unfold tokAl; rw [show (t.k == u.k) = false by simpa using hkd]; simp)
                    clear HJ hkd
                    go_wp2
                    go_big_quiet (fail)
                    go_wp2
                    go_ret
                    exact ⟨rb (by rw [HF.out]), by first | exact below_drewN hB4 _ | exact below_drewN (below_drewN hB4 _) _ | exact below_drewN (below_drewN (below_drewN hB4 _) _) _⟩
                · have HN : Hid (R = rowsAl keep (X.drop (k + 1)) (Y.drop (k + 1))) := Lib.hid (by rw [HJ0.out, toksAl_end (by omega), Bool.true_and])
                  clear HJ0
                  go_wp2
                  go_roundg (n - (k + 1))
                  case rel => exact ⟨k + 1, by omega, by go_num, rfl, HN, below_drewN hx4 _⟩
                  case measure => omega
            · have lf : ((LP.length : Int) != (LQ.length : Int)) = true := by rw [bne_iff_ne]; omega
              have HF : Hid (R = false) := Lib.hid (by rw [HK2.out, HRA.out]; simp [hll])
              clear HK2 HRA hdd hnn hll
              go_wp2
              go_big_quiet (fail)
              go_wp2
              go_ret
              exact ⟨rb (by rw [HF.out]), by first | exact below_drewN hB4 _ | exact below_drewN (below_drewN hB4 _) _ | exact below_drewN (below_drewN (below_drewN hB4 _) _) _⟩
          · have nf : (!(p.nm.toList == q.nm.toList)) = true := by simpa using hnn
            have HF : Hid (R = false) := Lib.hid (by rw [HK2.out, HRA.out, Bool.eq_false_iff.2 hnn]; simp)
            clear HK2 HRA hdd hnn
            go_wp2
            go_big_quiet (fail)
            go_wp2
            go_ret
            exact ⟨rb (by rw [HF.out]), by first | exact below_drewN hB4 _ | exact below_drewN (below_drewN hB4 _) _ | exact below_drewN (below_drewN (below_drewN hB4 _) _) _⟩
        · have df : (!(p.d == q.d)) = true := by simp [hdd]
          have HF : Hid (R = false) := Lib.hid (by rw [HK2.out, HRA.out, show (p.d == q.d) = false by simpa using hdd]; simp)
          clear HK2 HRA hdd
          go_wp2
          go_big_quiet (fail)
          go_wp2
          go_ret
          exact ⟨rb (by rw [HF.out]), by first | exact below_drewN hB4 _ | exact below_drewN (below_drewN hB4 _) _ | exact below_drewN (below_drewN (below_drewN hB4 _) _) _⟩
      · have HF : Hid (R = true) := Lib.hid (by rw [HK.out, rowsAl_end (by rw [HX.out]; omega)])
        go_wp2
        go_ret
        exact ⟨rb (by rw [HF.out]), hwB.trans (hbx.mono hwB.size)⟩
  · have HA2 : Hid (R = false) := Lib.hid (by rw [HA.out]; simp [hlen])
    have hne : ((X.length : Int) != (Y.length : Int)) = true := by rw [bne_iff_ne]; omega
    clear HA hlen
    go_wp2
    go_ret
    exact ⟨rb (by rw [HA2.out]), hwB⟩

end Go.Proofs.Ytpomcdolpmbhdaa

namespace Go.Proofs.Ytpomcdolpmbhdaa
open Go.RowKit

/-- What lines.Alike must answer (to be proved of the program). -/
def AlikeOk : Prop := ∀ (n1 n2 c1 c2 : Nat) (a1 a2 : Option Addr) (keep : Bool) (w : World) (rs qs : List Rz), rs.length = n1 → qs.length = n2 → n1 * 48 ≤ 140737488355328 → n2 * 48 ≤ 140737488355328 → n2 ≤ c2 →
    (∀ r ∈ rs, r.ts.length * 48 ≤ 140737488355328 ∧ ∀ t ∈ r.ts, t.tx.size ≤ 140737488355328) → (∀ r ∈ qs, r.ts.length * 48 ≤ 140737488355328 ∧ ∀ t ∈ r.ts, t.tx.size ≤ 140737488355328) → RzIn w a1 rs → RzIn w a2 qs →
    Calls Try.prog 19 #[.slice a1 n1 c1, .slice a2 n2 c2, .bool keep] w fun e w' => e = .returned (.bool (alikeS rs qs keep)) ∧ Below w.heap.size w w'

theorem toksAl_refl (s : Bool) : ∀ (l : List Tz) (k : Nat), toksAl s k l l = true
  | [], _ => rfl
  | t :: l, k => by
    rw [toksAl, toksAl_refl s l (k + 1), Bool.and_true]
    unfold tokAl
    simp
theorem rowsAl_refl (keep : Bool) : ∀ l : List Rz, rowsAl keep l l = true
  | [] => rfl
  | r :: l => by
    rw [rowsAl, rowsAl_refl keep l, Bool.and_true]
    unfold rowAl
    rw [toksAl_refl]
    simp
theorem alike_refl (rs : List Rz) (keep : Bool) : alikeS rs rs keep = true := by
  unfold alikeS
  rw [rowsAl_refl]
  simp

set_option maxRecDepth 100000 in
set_option maxHeartbeats 4000000 in
theorem alike_law (HP : AlikeOk) (n1 n2 c1 c2 : Nat) (a1 a2 : Option Addr) (keep : Bool) (w : World) (rs qs : List Rz) (hn1 : rs.length = n1) (hn2 : qs.length = n2) (hb1 : n1 * 48 ≤ 140737488355328) (hb2 : n2 * 48 ≤ 140737488355328)
    (ht1 : ∀ r ∈ rs, r.ts.length * 48 ≤ 140737488355328 ∧ ∀ t ∈ r.ts, t.tx.size ≤ 140737488355328) (ht2 : ∀ r ∈ qs, r.ts.length * 48 ≤ 140737488355328 ∧ ∀ t ∈ r.ts, t.tx.size ≤ 140737488355328) (hT1 : RzIn w a1 rs) (hT2 : RzIn w a2 qs) (hc1 : n1 ≤ c1) :
    Calls Try.prog 5 #[.slice a1 n1 c1, .slice a2 n2 c2, .bool keep] w fun e w' => e = .returned (.bool true) ∧ Below w.heap.size w w' := by
  have T1 := twin_any n1 c1 a1 w hb1 rs hn1 (fun r h => (ht1 r h).1) (by rw [← hn1]; exact hT1)
  have T2 := fun (w' : World) (hb : Below w.heap.size w w') => twin_any n2 c2 a2 w' hb2 qs hn2 (fun r h => (ht2 r h).1) (by rw [← hn2]; exact hT2.below hb)
  have P1 := fun (b1 b2 : Option Addr) (d1 d2 : Nat) (w' : World) (hd : n2 ≤ d2) (h1 : RzIn w' b1 rs) (h2 : RzIn w' b2 qs) => HP n1 n2 d1 d2 b1 b2 keep w' rs qs hn1 hn2 hb1 hb2 hd ht1 ht2 h1 h2
  have P2 := fun (b1 b2 : Option Addr) (d1 d2 : Nat) (w' : World) (hd : n1 ≤ d2) (h1 : RzIn w' b1 rs) (h2 : RzIn w' b2 rs) => HP n1 n1 d1 d2 b1 b2 keep w' rs rs hn1 hn1 hb1 hb1 hd ht1 ht1 h1 h2
  have R1 := fun (w' : World) (hb : Below w.heap.size w w') => rAlike_any n1 n2 c1 c2 a1 a2 keep w' rs qs hn1 hn2 hb1 hb2 (fun r h => (ht1 r h).1) (fun r h => (ht2 r h).1) (hT1.below hb) (hT2.below hb)
  have S1 := fun (b1 : Option Addr) (d1 : Nat) (w' : World) (h1 : RzIn w' b1 rs) (hb : Below w.heap.size w w') => rsame_any rs n1 d1 c1 b1 a1 w' hn1 hb1 (fun r h => (ht1 r h).1) h1 (hT1.below hb)
  have S2 := fun (b1 : Option Addr) (d1 : Nat) (w' : World) (h1 : RzIn w' b1 qs) (hb : Below w.heap.size w w') => rsame_any qs n2 d1 c2 b1 a2 w' hn2 hb2 (fun r h => (ht2 r h).1) h1 (hT2.below hb)
  have HT1 := Lib.hid hT1
  have HN1 := Lib.hid hn1
  have HN2 := Lib.hid hn2
  rw [alike_refl] at P2
  obtain ⟨R, hR⟩ : ∃ R, alikeS rs qs keep = R := ⟨_, rfl⟩
  rw [hR] at P1 R1
  clear hT1 hT2 ht1 ht2 hn1 hn2 HP hR
  go_enter Try.func5, Try.ntmps5
  go_wp2_with fail
  refine T1.mono ?_
  rintro e w1 ⟨⟨v1, vs1, rfl, ho1⟩, hw1⟩
  obtain ⟨x1, d1, rfl, hi1⟩ := twin_in ho1
  rw [HN1.out]
  have HI1 := Lib.hid hi1
  clear ho1 hi1 T1
  go_wp2_with fail
  refine (T2 _ hw1).mono ?_
  rintro e w2 ⟨⟨v2, vs2, rfl, ho2⟩, hw2⟩
  obtain ⟨x2, d2, rfl, hi2⟩ := twin_in ho2
  have hcx : n2 ≤ d2 := by have := row_cap2 ho2.row; rw [HN2.out] at this; exact this
  rw [HN2.out]
  have HI2 := Lib.hid hi2
  have hB2 := hw1.trans (hw2.mono hw1.size)
  clear ho2 hi2 T2
  go_wp2_with fail
  refine (P1 _ _ _ _ _ hcx (HI1.out.below hw2) HI2.out).mono ?_
  rintro e w3 ⟨rfl, hw3⟩
  have hB3 := hB2.trans (hw3.mono hB2.size)
  have h13 : Below w1.heap.size w1 w3 := hw2.trans (hw3.mono hw2.size)
  clear P1
  go_wp2_with fail
  refine (P2 _ _ _ _ _ hc1 (HI1.out.below h13) (HT1.out.below hB3)).mono ?_
  rintro e w4 ⟨rfl, hw4⟩
  have hB4 := hB3.trans (hw4.mono hB3.size)
  have h14 : Below w1.heap.size w1 w4 := h13.trans (hw4.mono h13.size)
  have h24 : Below w2.heap.size w2 w4 := hw3.trans (hw4.mono hw3.size)
  clear P2
  go_wp2_with fail
  refine (R1 _ hB4).mono ?_
  rintro e w5 ⟨rfl, hw5⟩
  have hB5 := hB4.trans (hw5.mono hB4.size)
  have h15 : Below w1.heap.size w1 w5 := h14.trans (hw5.mono h14.size)
  have h25 : Below w2.heap.size w2 w5 := h24.trans (hw5.mono h24.size)
  clear R1
  go_wp2_with fail
  refine (S1 _ _ _ (HI1.out.below h15) hB5).mono ?_
  rintro e w6 ⟨rfl, q, rfl⟩
  go_wp2_with fail
  refine (S2 _ _ _ (HI2.out.below (below_drewN h25 q)) (below_drewN hB5 q)).mono ?_
  rintro e w7 ⟨rfl, q2, rfl⟩
  go_wp2
  go_ret
  exact ⟨by simp, below_drewN hB5 _⟩

end Go.Proofs.Ytpomcdolpmbhdaa

namespace Go.Proofs.Ytpomcdolpmbhdaa
open Go.RowKit Go.Shelf

set_option maxRecDepth 100000 in
set_option maxHeartbeats 1000000 in
theorem tells_any (r : Rz) (ta : Option Addr) (tcap : Nat) (w : World) (hl : r.ts.length * 48 ≤ 140737488355328) (hx : ∀ t ∈ r.ts, t.tx.size ≤ 281474976710656) (ht : TzIn w ta r.ts) :
    Calls Try.prog 34 #[.agg #[.bool r.d, .string r.nm, .slice ta r.ts.length tcap]] w fun e w' => e = .returned (.bool (tellsB r)) ∧ Below w.heap.size w w' := by
  have hbw := below1 w (.cells #[.bool r.d, .string r.nm, .slice ta r.ts.length tcap] 28)
  have HS := says_any r ta tcap _ hl hx (ht.below hbw)
  have hT : tellsB r = (r.d || decide (0 < (bareL r).length)) := rfl
  have hSN : r.d = false → saysS r = bareL r := fun h => by unfold saysS; rw [h]; rfl
  have hlen := saysS_len r
  have HT := Lib.hid hT
  have HN := Lib.hid hSN
  clear ht hx hT hSN
  obtain ⟨d, nm, ts⟩ := r
  cases d
  · have HN2 : Hid (saysS ⟨false, nm, ts⟩ = bareL ⟨false, nm, ts⟩) := Lib.hid (HN.out rfl)
    obtain ⟨m, hm⟩ : ∃ m, (saysS ⟨false, nm, ts⟩).length = m := ⟨_, rfl⟩
    rw [hm] at HS hlen
    have HT2 : Hid (tellsB ⟨false, nm, ts⟩ = decide (0 < m)) := Lib.hid (by rw [HT.out, ← hm, HN2.out]; rfl)
    clear HT HN HN2 hm
    simp only at hl hlen
    have hk := mcells (w := w) (vs := #[.bool false, .string nm, .slice ta ts.length tcap]) (t := 28)
    have k0 := hk 0 _ rfl
    have k1 := hk 1 _ rfl
    have k2 := hk 2 _ rfl
    clear hk
    by_cases h0 : 0 < m
    · have HT3 := Lib.hid (HT2.out.trans (decide_eq_true h0))
      have b0 : (0 : Int) < (m : Int) := by omega
      clear HT2
      go_enter Try.func34, Try.ntmps34
      go_wp2_with fail
      refine HS.mono ?_
      rintro e w1 ⟨⟨a', cap', rfl, -⟩, hb1⟩
      have hB1 := hbw.trans (hb1.mono hbw.size)
      clear HS
      go_wp2
      go_ret
      exact ⟨rb (by rw [HT3.out]), hB1⟩
    · have HT3 := Lib.hid (HT2.out.trans (decide_eq_false h0))
      have b0 : ¬ (0 : Int) < (m : Int) := by omega
      clear HT2
      go_enter Try.func34, Try.ntmps34
      go_wp2_with fail
      refine HS.mono ?_
      rintro e w1 ⟨⟨a', cap', rfl, -⟩, hb1⟩
      have hB1 := hbw.trans (hb1.mono hbw.size)
      clear HS
      go_wp2
      go_ret
      exact ⟨rb (by rw [HT3.out]), hB1⟩
  · have HT2 : Hid (tellsB ⟨true, nm, ts⟩ = true) := Lib.hid (by rw [HT.out]; rfl)
    clear HT HN HS
    go_enter Try.func34, Try.ntmps34
    go_wp2
    go_ret
    exact ⟨rb (by rw [HT2.out]), hbw⟩

set_option maxRecDepth 100000 in
set_option maxHeartbeats 1000000 in
theorem saying_any (t : Tz) (sp : Bool) (w : World) :
    Calls Try.prog 45 #[.agg #[.int .i64 t.k, .string t.tx, .int .i64 t.a, .int .i64 t.e, .bool t.sp], .bool sp] w fun e w' => e = .returned (.agg #[.int .i64 t.k, .string t.tx, .bool (sp && t.sp)]) ∧ Below w.heap.size w w' := by
  cases sp
  · go_enter Try.func45, Try.ntmps45
    go_wp2
    refine bodyPost_ret (v := .agg #[.int .i64 t.k, .string t.tx, .bool false]) (by simp [results, Try.results45, go_sem]) rfl ⟨rfl, ?_⟩
    exact below2 w _ _
  · go_enter Try.func45, Try.ntmps45
    go_wp2
    refine bodyPost_ret (v := .agg #[.int .i64 t.k, .string t.tx, .bool t.sp]) (by simp [results, Try.results45, go_sem]) rfl ⟨rfl, ?_⟩
    exact below2 w _ _

end Go.Proofs.Ytpomcdolpmbhdaa

namespace Go.Proofs.Ytpomcdolpmbhdaa
open Go.RowKit Go.Shelf

theorem defB_name (p : Rz) : ((nameS p).toList == [100, 101, 102, 105, 110, 101]) = defB p := by
  unfold nameS defB
  cases p.d
  · simp only [Bool.false_and]; exact (by decide +kernel : ((⟨#[]⟩ : ByteArray).toList == [100, 101, 102, 105, 110, 101]) = false)
  · rfl

theorem said2 {a b : Int} {s t : List UInt8} {W : World} : (if a = b then if s = t then Result.ok (Next.value (.bool false)) W else Result.ok (Next.value (.bool true)) W else Result.ok (Next.value (.bool true)) W) = Result.ok (Next.value (.bool (!(a == b && s == t && (false == false))))) W := by
  repeat split
  all_goals simp_all
theorem said3 {a b : Int} {s t : List UInt8} {x y : Bool} {W : World} : (if a = b then if s = t then if x = y then Result.ok (Next.value (.bool false)) W else Result.ok (Next.value (.bool true)) W else Result.ok (Next.value (.bool true)) W else Result.ok (Next.value (.bool true)) W) = Result.ok (Next.value (.bool (!(a == b && s == t && x == y)))) W := by
  repeat split
  all_goals simp_all

set_option maxRecDepth 100000 in
set_option maxHeartbeats 8000000 in
theorem sameRow_any (p q : Rz) (t1 t2 : Option Addr) (tc1 tc2 : Nat) (keep : Bool) (w : World) (hl1 : p.ts.length * 48 ≤ 140737488355328) (hl2 : q.ts.length * 48 ≤ 140737488355328) (hx1 : ∀ t ∈ p.ts, t.tx.size ≤ 281474976710656) (hx2 : ∀ t ∈ q.ts, t.tx.size ≤ 281474976710656) (ht1 : TzIn w t1 p.ts) (ht2 : TzIn w t2 q.ts) :
    Calls Try.prog 35 #[.agg #[.bool p.d, .string p.nm, .slice t1 p.ts.length tc1], .agg #[.bool q.d, .string q.nm, .slice t2 q.ts.length tc2], .bool keep] w fun e w' => e = .returned (.bool (rowAl keep p q)) ∧ Below w.heap.size w w' := by
  have hb0 := below2 w (.cells #[.bool p.d, .string p.nm, .slice t1 p.ts.length tc1] 28) (.cells #[.bool q.d, .string q.nm, .slice t2 q.ts.length tc2] 28)
  have HRA : Hid (rowAl keep p q = (p.d == q.d && p.nm.toList == q.nm.toList && (saysS p).length == (saysS q).length && toksAl (keep || defB p) 0 (saysS p) (saysS q))) := Lib.hid rfl
  have CP := fun (w' : World) (hb : Below w.heap.size w w') => says_any p t1 tc1 w' hl1 hx1 (ht1.below hb)
  have CQ := fun (w' : World) (hb : Below w.heap.size w w') => says_any q t2 tc2 w' hl2 hx2 (ht2.below hb)
  clear hx1 hx2 ht1 ht2
  obtain ⟨W2, hW2⟩ : ∃ W2, (w.alloc (.cells #[.bool p.d, .string p.nm, .slice t1 p.ts.length tc1] 28)).alloc (.cells #[.bool q.d, .string q.nm, .slice t2 q.ts.length tc2] 28) = W2 := ⟨_, rfl⟩
  have hP2 : W2.heap[w.heap.size]? = some (.cells #[.bool p.d, .string p.nm, .slice t1 p.ts.length tc1] 28 (0, 0)) := by
    rw [← hW2]; exact (Below.heap_alloc _ _ _ (by simp)).trans (World.alloc_heap_new w _)
  have hQ2 : W2.heap[w.heap.size + 1]? = some (.cells #[.bool q.d, .string q.nm, .slice t2 q.ts.length tc2] 28 (0, 0)) := by
    have := World.alloc_heap_new (w.alloc (.cells #[.bool p.d, .string p.nm, .slice t1 p.ts.length tc1] 28)) (.cells #[.bool q.d, .string q.nm, .slice t2 q.ts.length tc2] 28)
    rw [World.size_alloc, hW2] at this; exact this
  have hs2 : W2.heap.size = w.heap.size + 2 := by rw [← hW2]; simp
  rw [hW2] at hb0
  have hF : ∀ W : World, Below W2.heap.size W2 W → (W.cell? ⟨w.heap.size, 0, none⟩ = some (.bool p.d) ∧ W.cell? ⟨w.heap.size, 1, none⟩ = some (.string p.nm) ∧ W.cell? ⟨w.heap.size, 2, none⟩ = some (.slice t1 p.ts.length tc1) ∧ W.cell? ⟨w.heap.size + 1, 0, none⟩ = some (.bool q.d) ∧ W.cell? ⟨w.heap.size + 1, 1, none⟩ = some (.string q.nm) ∧ W.cell? ⟨w.heap.size + 1, 2, none⟩ = some (.slice t2 q.ts.length tc2)) ∧ Below w.heap.size w W := fun W hW => by
    obtain ⟨a0, a1, a2, -⟩ := row_facts ((hW.block w.heap.size (by omega)).trans hP2)
    obtain ⟨b0, b1, b2, -⟩ := row_facts ((hW.block (w.heap.size + 1) (by omega)).trans hQ2)
    exact ⟨⟨a0, a1, a2, b0, b1, b2⟩, hb0.trans (hW.mono (by omega))⟩
  have HF := Lib.hid hF
  obtain ⟨⟨e0, e1, e2, f0, f1, f2⟩, -⟩ := hF W2 (Below.refl _ _)
  have HS2 := Lib.hid hs2
  clear hP2 hQ2 hs2 hF
  obtain ⟨LP, hLP⟩ : ∃ L, saysS p = L := ⟨_, rfl⟩
  obtain ⟨LQ, hLQ⟩ : ∃ L, saysS q = L := ⟨_, rfl⟩
  have hPs := saysS_len p
  have hQs := saysS_len q
  obtain ⟨R, hR⟩ : ∃ R, rowAl keep p q = R := ⟨_, rfl⟩
  rw [hLP, hLQ, hR] at HRA
  rw [hLP] at CP hPs
  rw [hLQ] at CQ hQs
  rw [hR]
  have hLPs : LP.length ≤ 140737488355328 := by omega
  have hLQs : LQ.length ≤ 140737488355328 := by omega
  have CN := fun v w' => nameOf_any p v w'
  clear hLP hLQ hR hl1 hl2 hPs hQs
  go_enter Try.func35, Try.ntmps35
  by_cases hdd : p.d = q.d
  · have df : (!(p.d == q.d)) = false := by simp [hdd]
    by_cases hnn : (p.nm.toList == q.nm.toList) = true
    · have nf : (!(p.nm.toList == q.nm.toList)) = false := by rw [hnn]; rfl
      have HRB : Hid (R = (LP.length == LQ.length && toksAl (keep || defB p) 0 (LP.drop 0) (LQ.drop 0))) := Lib.hid (by rw [HRA.out, hnn, hdd]; simp)
      clear HRA hdd hnn
      go_upto_region 3 with fail
      go_cut [7, 8] (fun t u wx => ∃ a1 c1 a2 c2, t = .slice a1 LP.length c1 ∧ u = .slice a2 LQ.length c2 ∧ TzIn wx a1 LP ∧ TzIn wx a2 LQ ∧ Below W2.heap.size W2 wx)
      case first =>
        go_region_held3 (fun w' => w'.cell? ⟨w.heap.size, 0, none⟩ = some (.bool p.d) ∧ w'.cell? ⟨w.heap.size, 1, none⟩ = some (.string p.nm) ∧ w'.cell? ⟨w.heap.size, 2, none⟩ = some (.slice t1 p.ts.length tc1) ∧ w'.cell? ⟨w.heap.size + 1, 0, none⟩ = some (.bool q.d) ∧ w'.cell? ⟨w.heap.size + 1, 1, none⟩ = some (.string q.nm) ∧ w'.cell? ⟨w.heap.size + 1, 2, none⟩ = some (.slice t2 q.ts.length tc2))
          (first | go_keep | exact (HF.out _ hqW).1 | exact (HF.out _ hpW).1)
          (first
            | (go_at_call 12; ((with_reducible refine (CP _ ?_).mono ?_); (first | exact (HF.out _ hqW).2 | exact below_drewN hb0 1)); rintro e wp ⟨⟨a1, c1, rfl, hp⟩, hbp⟩; have hpW : Below W2.heap.size W2 wp := (by first | exact hqW.trans (hbp.mono hqW.size) | exact (below_drewN (Below.refl W2.heap.size W2) 1).trans hbp))
            | (go_at_call 12; ((with_reducible refine (CQ _ ?_).mono ?_); (first | exact (HF.out _ hpW).2 | exact below_drewN hb0 1)); rintro e wq ⟨⟨a2, c2, rfl, hq⟩, hbq⟩; have hqW : Below W2.heap.size W2 wq := (by first | exact hpW.trans (hbq.mono hpW.size) | exact (below_drewN (Below.refl W2.heap.size W2) 1).trans hbq)))
        all_goals
          go_wp2_with fail
          go_meet
          first
            | exact ⟨a1, c1, a2, c2, rfl, rfl, hp.in.below hbq, hq.in, hqW⟩
            | exact ⟨a1, c1, a2, c2, rfl, rfl, hp.in, hq.in.below hbp, hpW⟩
      case rest =>
        obtain ⟨a1, c1, a2, c2, rfl, rfl, hI1, hI2, hWc⟩ := hcut
        obtain ⟨⟨g0, g1, g2, h0, h1, h2⟩, hB2⟩ := HF.out _ hWc
        have HI1 := Lib.hid hI1
        have HI2 := Lib.hid hI2
        clear hI1 hI2 e0 e1 e2 f0 f1 f2
        by_cases hll : LP.length = LQ.length
        · have lf : ((LP.length : Int) != (LQ.length : Int)) = false := by rw [hll]; simp
          have HRC : Hid (R = toksAl (keep || defB p) 0 (LP.drop 0) (LQ.drop 0)) := Lib.hid (by rw [HRB.out, hll]; simp)
          have HLL := Lib.hid hll
          clear HRB hll
          obtain ⟨sp, hsp⟩ : ∃ sp, (keep || defB p) = sp := ⟨_, rfl⟩
          rw [hsp] at HRC
          have HSP := Lib.hid hsp
          clear hsp
          go_upto_region 6 with fail
          go_cut [9] (fun t wx => t = .bool sp ∧ TzIn wx a1 LP ∧ TzIn wx a2 LQ ∧ Below W2.heap.size W2 wx)
          case first =>
            cases keep with
            | true =>
              obtain rfl : sp = true := by have := HSP.out; simpa using this.symm
              go_wp2_with fail
              go_meet
              exact ⟨rfl, HI1.out, HI2.out, hWc⟩
            | false =>
              have HD : Hid (((nameS p).toList == [100, 101, 102, 105, 110, 101]) = sp) := Lib.hid (by rw [defB_name]; simpa using HSP.out)
              go_wp2_with fail
              refine (CN _ _).mono ?_
              rintro e w3 ⟨rfl, hb3⟩
              have hW3 := hWc.trans (hb3.mono hWc.size)
              cases sp with
              | true =>
                have hd := HD.out
                go_wp2_with fail
                go_meet
                exact ⟨rfl, HI1.out.below hb3, HI2.out.below hb3, hW3⟩
              | false =>
                have hd := HD.out
                go_wp2_with fail
                go_meet
                exact ⟨rfl, HI1.out.below hb3, HI2.out.below hb3, hW3⟩
          case rest =>
            obtain ⟨rfl, hJ1, hJ2, hWd⟩ := hcut
            have HJ1 := Lib.hid hJ1
            have HJ2 := Lib.hid hJ2
            have hBd := (HF.out _ hWd).2
            have hEnd : toksAl (keep || defB p) 0 (LP.drop 0) (LQ.drop 0) = toksAl sp 0 (LP.drop 0) (LQ.drop 0) := by rw [HSP.out]
            clear hJ1 hJ2 hEnd HI1 HI2 hWc hB2 g0 g1 g2 h0 h1 h2 hb0 HF HSP CN CP CQ
            go_wp2
            go_loopw [40] (fun i wx => ∃ j : Nat, j ≤ LP.length ∧ i = .int .i64 j ∧ Hid (R = toksAl sp j (LP.drop j) (LQ.drop j)) ∧ Below wc.heap.size wc wx) (fun i _ => LP.length - (intOf i).toNat)
            case atStart => exact ⟨0, Nat.zero_le _, rfl, HRC, Below.refl _ _⟩
            case round =>
              obtain ⟨j, hj, rfl, HJ0, hbx⟩ := hrel
              by_cases hjl : j < LP.length
              · obtain ⟨t, ht⟩ : ∃ t, LP[j]? = some t := ⟨_, List.getElem?_eq_getElem hjl⟩
                obtain ⟨u, hu⟩ : ∃ t, LQ[j]? = some t := ⟨_, List.getElem?_eq_getElem (by rw [← HLL.out]; exact hjl)⟩
                obtain ⟨gl, ol, rfl, hgl, hrl⟩ := HJ1.out (by omega)
                obtain ⟨gm, om, rfl, hgm, hrm⟩ := HJ2.out (by rw [← HLL.out]; omega)
                have hcells : ∀ W : World, Below wc.heap.size wc W → ((W.cell? ⟨gl, ol + j * 5, none⟩ = some (.int .i64 t.k) ∧ W.cell? ⟨gl, ol + j * 5 + 1, none⟩ = some (.string t.tx) ∧ W.cell? ⟨gl, ol + j * 5 + 2, none⟩ = some (.int .i64 t.a) ∧ W.cell? ⟨gl, ol + j * 5 + 3, none⟩ = some (.int .i64 t.e) ∧ W.cell? ⟨gl, ol + j * 5 + 4, none⟩ = some (.bool t.sp)) ∧
                    W.cell? ⟨gm, om + j * 5, none⟩ = some (.int .i64 u.k) ∧ W.cell? ⟨gm, om + j * 5 + 1, none⟩ = some (.string u.tx) ∧ W.cell? ⟨gm, om + j * 5 + 2, none⟩ = some (.int .i64 u.a) ∧ W.cell? ⟨gm, om + j * 5 + 3, none⟩ = some (.int .i64 u.e) ∧ W.cell? ⟨gm, om + j * 5 + 4, none⟩ = some (.bool u.sp)) := fun W hW => by
                  obtain ⟨x0, x1, x2, x3, x4⟩ := (hrl.below hW hgl) j t ht
                  obtain ⟨y0, y1, y2, y3, y4⟩ := (hrm.below hW hgm) j u hu
                  exact ⟨⟨x0, x1, x2, x3, x4⟩, y0, y1, y2, y3, y4⟩
                obtain ⟨⟨l0, l1, l2, l3, l4⟩, m0, m1, m2, m3, m4⟩ := hcells wr hbx
                have hJ := HJ0.out
                rw [toksAl_step ht hu] at hJ
                have HJ := Lib.hid hJ
                have HCE := Lib.hid hcells
                clear hcells hrl hrm ht hu hJ HJ0
                have i1 : (j : Int) < (LP.length : Int) := by omega
                have i2 : (j : Int) < (LQ.length : Int) := by have := HLL.out; omega
                have i0 : (0 : Int) ≤ (j : Int) := by omega
                cases sp with
                | false =>
                  have CT : ∀ w' : World, Calls Try.prog 45 #[.agg #[.int .i64 t.k, .string t.tx, .int .i64 t.a, .int .i64 t.e, .bool t.sp], .bool false] w' fun e w'' => e = .returned (.agg #[.int .i64 t.k, .string t.tx, .bool false]) ∧ Below w'.heap.size w' w'' := fun w' => saying_any t false w'
                  have CU : ∀ w' : World, Calls Try.prog 45 #[.agg #[.int .i64 u.k, .string u.tx, .int .i64 u.a, .int .i64 u.e, .bool u.sp], .bool false] w' fun e w'' => e = .returned (.agg #[.int .i64 u.k, .string u.tx, .bool false]) ∧ Below w'.heap.size w' w'' := fun w' => saying_any u false w'
                  obtain ⟨N, hN⟩ : ∃ N, (!(t.k == u.k && t.tx.toList == u.tx.toList && (false == false))) = N := ⟨_, rfl⟩
                  have HNT : Hid (tokAl false j t u = !N) := Lib.hid (by rw [← hN]; unfold tokAl; simp)
                  have HNE := Lib.hid hN
                  clear hN l0 l1 l2 l3 l4 m0 m1 m2 m3 m4
                  go_upto_region 10 with fail
                  have hS0 : (fun W : World => (W.cell? ⟨gl, ol + j * 5, none⟩ = some (.int .i64 t.k) ∧ W.cell? ⟨gl, ol + j * 5 + 1, none⟩ = some (.string t.tx) ∧ W.cell? ⟨gl, ol + j * 5 + 2, none⟩ = some (.int .i64 t.a) ∧ W.cell? ⟨gl, ol + j * 5 + 3, none⟩ = some (.int .i64 t.e) ∧ W.cell? ⟨gl, ol + j * 5 + 4, none⟩ = some (.bool t.sp)) ∧ W.cell? ⟨gm, om + j * 5, none⟩ = some (.int .i64 u.k) ∧ W.cell? ⟨gm, om + j * 5 + 1, none⟩ = some (.string u.tx) ∧ W.cell? ⟨gm, om + j * 5 + 2, none⟩ = some (.int .i64 u.a) ∧ W.cell? ⟨gm, om + j * 5 + 3, none⟩ = some (.int .i64 u.e) ∧ W.cell? ⟨gm, om + j * 5 + 4, none⟩ = some (.bool u.sp)) wr.drew := HCE.out _ (below_drewN hbx 1)
                  refine wp_region_held_drew (S := (fun W : World => (W.cell? ⟨gl, ol + j * 5, none⟩ = some (.int .i64 t.k) ∧ W.cell? ⟨gl, ol + j * 5 + 1, none⟩ = some (.string t.tx) ∧ W.cell? ⟨gl, ol + j * 5 + 2, none⟩ = some (.int .i64 t.a) ∧ W.cell? ⟨gl, ol + j * 5 + 3, none⟩ = some (.int .i64 t.e) ∧ W.cell? ⟨gl, ol + j * 5 + 4, none⟩ = some (.bool t.sp)) ∧ W.cell? ⟨gm, om + j * 5, none⟩ = some (.int .i64 u.k) ∧ W.cell? ⟨gm, om + j * 5 + 1, none⟩ = some (.string u.tx) ∧ W.cell? ⟨gm, om + j * 5 + 2, none⟩ = some (.int .i64 u.a) ∧ W.cell? ⟨gm, om + j * 5 + 3, none⟩ = some (.int .i64 u.e) ∧ W.cell? ⟨gm, om + j * 5 + 4, none⟩ = some (.bool u.sp))) (by kernel_rfl) hS0 (fun hS => ?_)
                  clear hS0
                  refine take_at (i := 0) (d := 43) (v := .slice (some ⟨gl, ol, none⟩) LP.length c1) rfl rfl (by kernel_rfl) (by kernel_rfl) (by kernel_rfl) (fun _ _ _ h => h) (Or.inl ⟨by rfl, ?_⟩) hS ?_
                  · rintro W ⟨⟨x0, x1, x2, x3, x4⟩, y0, y1, y2, y3, y4⟩
                    go_simp
                  simp only [List.setIfInBounds_toArray, List.set_cons_zero, List.set_cons_succ]
                  refine take_at (i := 1) (d := 44) (v := .int .i64 j) rfl rfl (by kernel_rfl) (by kernel_rfl) (by kernel_rfl) (fun _ _ _ h => h) (Or.inl ⟨by rfl, ?_⟩) hS ?_
                  · rintro W ⟨⟨x0, x1, x2, x3, x4⟩, y0, y1, y2, y3, y4⟩
                    go_simp
                  simp only [List.setIfInBounds_toArray, List.set_cons_zero, List.set_cons_succ]
                  refine take_at (i := 2) (d := 45) (v := .pointer (some ⟨gl, ol + j * 5, none⟩)) rfl rfl (by kernel_rfl) (by kernel_rfl) (by kernel_rfl) (fun _ _ _ h => h) (Or.inl ⟨by rfl, ?_⟩) hS ?_
                  · rintro W ⟨⟨x0, x1, x2, x3, x4⟩, y0, y1, y2, y3, y4⟩
                    go_simp
                  simp only [List.setIfInBounds_toArray, List.set_cons_zero, List.set_cons_succ]
                  refine take_at (i := 3) (d := 46) (v := .agg #[.int .i64 t.k, .string t.tx, .int .i64 t.a, .int .i64 t.e, .bool t.sp]) rfl rfl (by kernel_rfl) (by kernel_rfl) (by kernel_rfl) (fun _ _ _ h => h) (Or.inl ⟨by rfl, ?_⟩) hS ?_
                  · rintro W ⟨⟨x0, x1, x2, x3, x4⟩, y0, y1, y2, y3, y4⟩
                    go_simp
                  simp only [List.setIfInBounds_toArray, List.set_cons_zero, List.set_cons_succ]
                  refine take_at (i := 4) (d := 47) (v := .bool false) rfl rfl (by kernel_rfl) (by kernel_rfl) (by kernel_rfl) (fun _ _ _ h => h) (Or.inl ⟨by rfl, ?_⟩) hS ?_
                  · rintro W ⟨⟨x0, x1, x2, x3, x4⟩, y0, y1, y2, y3, y4⟩
                    go_simp
                  simp only [List.setIfInBounds_toArray, List.set_cons_zero, List.set_cons_succ]
                  refine take_at (i := 5) (d := 48) (v := .bool false) rfl rfl (by kernel_rfl) (by kernel_rfl) (by kernel_rfl) (fun _ _ _ h => h) (Or.inl ⟨by rfl, ?_⟩) hS ?_
                  · rintro W ⟨⟨x0, x1, x2, x3, x4⟩, y0, y1, y2, y3, y4⟩
                    go_simp
                  simp only [List.setIfInBounds_toArray, List.set_cons_zero, List.set_cons_succ]
                  refine take_at (i := 6) (d := 49) (v := undef) rfl rfl (by kernel_rfl) (by kernel_rfl) (by kernel_rfl) (fun _ _ _ h => h) (Or.inr ⟨by rfl, rfl⟩) hS ?_
                  simp only [List.setIfInBounds_toArray, List.set_cons_zero, List.set_cons_succ]
                  refine take_at (i := 7) (d := 50) (v := undef) rfl rfl (by kernel_rfl) (by kernel_rfl) (by kernel_rfl) (fun _ _ _ h => h) (Or.inr ⟨by rfl, rfl⟩) hS ?_
                  simp only [List.setIfInBounds_toArray, List.set_cons_zero, List.set_cons_succ]
                  refine take_at (i := 8) (d := 51) (v := .bool false) rfl rfl (by kernel_rfl) (by kernel_rfl) (by kernel_rfl) (fun _ _ _ h => h) (Or.inl ⟨by rfl, ?_⟩) hS ?_
                  · rintro W ⟨⟨x0, x1, x2, x3, x4⟩, y0, y1, y2, y3, y4⟩
                    go_simp
                  simp only [List.setIfInBounds_toArray, List.set_cons_zero, List.set_cons_succ]
                  refine take_at (i := 10) (d := 53) (v := .slice (some ⟨gm, om, none⟩) LQ.length c2) rfl rfl (by kernel_rfl) (by kernel_rfl) (by kernel_rfl) (fun _ _ _ h => h) (Or.inl ⟨by rfl, ?_⟩) hS ?_
                  · rintro W ⟨⟨x0, x1, x2, x3, x4⟩, y0, y1, y2, y3, y4⟩
                    go_simp
                  simp only [List.setIfInBounds_toArray, List.set_cons_zero, List.set_cons_succ]
                  refine take_at (i := 11) (d := 54) (v := .int .i64 j) rfl rfl (by kernel_rfl) (by kernel_rfl) (by kernel_rfl) (fun _ _ _ h => h) (Or.inl ⟨by rfl, ?_⟩) hS ?_
                  · rintro W ⟨⟨x0, x1, x2, x3, x4⟩, y0, y1, y2, y3, y4⟩
                    go_simp
                  simp only [List.setIfInBounds_toArray, List.set_cons_zero, List.set_cons_succ]
                  refine take_at (i := 12) (d := 55) (v := .pointer (some ⟨gm, om + j * 5, none⟩)) rfl rfl (by kernel_rfl) (by kernel_rfl) (by kernel_rfl) (fun _ _ _ h => h) (Or.inl ⟨by rfl, ?_⟩) hS ?_
                  · rintro W ⟨⟨x0, x1, x2, x3, x4⟩, y0, y1, y2, y3, y4⟩
                    go_simp
                  simp only [List.setIfInBounds_toArray, List.set_cons_zero, List.set_cons_succ]
                  refine take_at (i := 13) (d := 56) (v := .agg #[.int .i64 u.k, .string u.tx, .int .i64 u.a, .int .i64 u.e, .bool u.sp]) rfl rfl (by kernel_rfl) (by kernel_rfl) (by kernel_rfl) (fun _ _ _ h => h) (Or.inl ⟨by rfl, ?_⟩) hS ?_
                  · rintro W ⟨⟨x0, x1, x2, x3, x4⟩, y0, y1, y2, y3, y4⟩
                    go_simp
                  simp only [List.setIfInBounds_toArray, List.set_cons_zero, List.set_cons_succ]
                  refine take_at (i := 14) (d := 57) (v := .bool false) rfl rfl (by kernel_rfl) (by kernel_rfl) (by kernel_rfl) (fun _ _ _ h => h) (Or.inl ⟨by rfl, ?_⟩) hS ?_
                  · rintro W ⟨⟨x0, x1, x2, x3, x4⟩, y0, y1, y2, y3, y4⟩
                    go_simp
                  simp only [List.setIfInBounds_toArray, List.set_cons_zero, List.set_cons_succ]
                  refine wpAnyH_ready (rs := [9]) (by kernel_rfl) (by simp) ?_
                  refine AllReadyH.cons rfl (fun K hK => ?_) AllReadyH.nil
                  go_simp
                  refine (CT _).mono ?_
                  rintro e wt ⟨rfl, hnt⟩
                  have hbt : Below wc.heap.size wc wt := (below_drewN hbx 1).trans (hnt.mono (below_drewN hbx 1).size)
                  go_wp2_with fail
                  refine hK.out _ _ (HCE.out _ hbt) (fun hS => ?_)
                  clear hK K
                  refine take_at (i := 15) (d := 58) (v := .bool false) rfl rfl (by kernel_rfl) (by kernel_rfl) (by kernel_rfl) (fun _ _ _ h => h) (Or.inl ⟨by rfl, ?_⟩) hS ?_
                  · rintro W ⟨⟨x0, x1, x2, x3, x4⟩, y0, y1, y2, y3, y4⟩
                    go_simp
                  simp only [List.setIfInBounds_toArray, List.set_cons_zero, List.set_cons_succ]
                  refine take_at (i := 16) (d := 59) (v := undef) rfl rfl (by kernel_rfl) (by kernel_rfl) (by kernel_rfl) (fun _ _ _ h => h) (Or.inr ⟨by rfl, rfl⟩) hS ?_
                  simp only [List.setIfInBounds_toArray, List.set_cons_zero, List.set_cons_succ]
                  refine take_at (i := 17) (d := 60) (v := undef) rfl rfl (by kernel_rfl) (by kernel_rfl) (by kernel_rfl) (fun _ _ _ h => h) (Or.inr ⟨by rfl, rfl⟩) hS ?_
                  simp only [List.setIfInBounds_toArray, List.set_cons_zero, List.set_cons_succ]
                  refine take_at (i := 18) (d := 61) (v := .bool false) rfl rfl (by kernel_rfl) (by kernel_rfl) (by kernel_rfl) (fun _ _ _ h => h) (Or.inl ⟨by rfl, ?_⟩) hS ?_
                  · rintro W ⟨⟨x0, x1, x2, x3, x4⟩, y0, y1, y2, y3, y4⟩
                    go_simp
                  simp only [List.setIfInBounds_toArray, List.set_cons_zero, List.set_cons_succ]
                  refine wpAnyH_ready (rs := [19]) (by kernel_rfl) (by simp) ?_
                  refine AllReadyH.cons rfl (fun K hK => ?_) AllReadyH.nil
                  go_simp
                  refine (CU _).mono ?_
                  rintro e wu ⟨rfl, hnu⟩
                  have hbu : Below wc.heap.size wc wu := hbt.trans (hnu.mono hbt.size)
                  go_wp2_with fail
                  refine hK.out _ _ (HCE.out _ hbu) (fun hS => ?_)
                  clear hK K
                  refine take_at (i := 20) (d := 63) (v := .bool N) rfl rfl (by kernel_rfl) (by kernel_rfl) (by kernel_rfl) (fun _ _ _ h => h) (Or.inl ⟨by rfl, ?_⟩) hS ?_
                  · rintro W ⟨⟨x0, x1, x2, x3, x4⟩, y0, y1, y2, y3, y4⟩
                    (go_simp; rw [← HNE.out]; first | exact said2 | exact said3)
                  simp only [List.setIfInBounds_toArray, List.set_cons_zero, List.set_cons_succ]
                  refine wpAnyH_done (by kernel_rfl) ?_ _
                  have hBu : Below w.heap.size w wu := hBd.trans (hbu.mono hBd.size)
                  clear hnt hnu CT CU hS HCE HNE
                  cases N with
                  | true =>
                    have HF : Hid (R = false) := Lib.hid (by rw [HJ.out, HNT.out]; rfl)
                    clear HJ HNT
                    go_wp2
                    go_ret
                    exact ⟨rb (by rw [HF.out]), hBu⟩
                  | false =>
                    have HN : Hid (R = toksAl false (j + 1) (LP.drop (j + 1)) (LQ.drop (j + 1))) := Lib.hid (by rw [HJ.out, HNT.out]; rfl)
                    clear HJ HNT
                    go_wp2
                    refine ⟨⟨j + 1, by omega, by go_num, HN, hbu⟩, ?_⟩
                    simp [intOf]; omega
                | true =>
                  by_cases hj0 : 0 < j
                  · have jf : (0 : Int) < (j : Int) := by omega
                    have CT : ∀ w' : World, Calls Try.prog 45 #[.agg #[.int .i64 t.k, .string t.tx, .int .i64 t.a, .int .i64 t.e, .bool t.sp], .bool true] w' fun e w'' => e = .returned (.agg #[.int .i64 t.k, .string t.tx, .bool t.sp]) ∧ Below w'.heap.size w' w'' := fun w' => saying_any t true w'
                    have CU : ∀ w' : World, Calls Try.prog 45 #[.agg #[.int .i64 u.k, .string u.tx, .int .i64 u.a, .int .i64 u.e, .bool u.sp], .bool true] w' fun e w'' => e = .returned (.agg #[.int .i64 u.k, .string u.tx, .bool u.sp]) ∧ Below w'.heap.size w' w'' := fun w' => saying_any u true w'
                    obtain ⟨N, hN⟩ : ∃ N, (!(t.k == u.k && t.tx.toList == u.tx.toList && (t.sp == u.sp))) = N := ⟨_, rfl⟩
                    have HNT : Hid (tokAl true j t u = !N) := Lib.hid (by rw [← hN]; unfold tokAl; simp [hj0])
                    have HNE := Lib.hid hN
                    clear hN l0 l1 l2 l3 l4 m0 m1 m2 m3 m4
                    go_upto_region 10 with fail
                    have hS0 : (fun W : World => (W.cell? ⟨gl, ol + j * 5, none⟩ = some (.int .i64 t.k) ∧ W.cell? ⟨gl, ol + j * 5 + 1, none⟩ = some (.string t.tx) ∧ W.cell? ⟨gl, ol + j * 5 + 2, none⟩ = some (.int .i64 t.a) ∧ W.cell? ⟨gl, ol + j * 5 + 3, none⟩ = some (.int .i64 t.e) ∧ W.cell? ⟨gl, ol + j * 5 + 4, none⟩ = some (.bool t.sp)) ∧ W.cell? ⟨gm, om + j * 5, none⟩ = some (.int .i64 u.k) ∧ W.cell? ⟨gm, om + j * 5 + 1, none⟩ = some (.string u.tx) ∧ W.cell? ⟨gm, om + j * 5 + 2, none⟩ = some (.int .i64 u.a) ∧ W.cell? ⟨gm, om + j * 5 + 3, none⟩ = some (.int .i64 u.e) ∧ W.cell? ⟨gm, om + j * 5 + 4, none⟩ = some (.bool u.sp)) wr.drew := HCE.out _ (below_drewN hbx 1)
                    refine wp_region_held_drew (S := (fun W : World => (W.cell? ⟨gl, ol + j * 5, none⟩ = some (.int .i64 t.k) ∧ W.cell? ⟨gl, ol + j * 5 + 1, none⟩ = some (.string t.tx) ∧ W.cell? ⟨gl, ol + j * 5 + 2, none⟩ = some (.int .i64 t.a) ∧ W.cell? ⟨gl, ol + j * 5 + 3, none⟩ = some (.int .i64 t.e) ∧ W.cell? ⟨gl, ol + j * 5 + 4, none⟩ = some (.bool t.sp)) ∧ W.cell? ⟨gm, om + j * 5, none⟩ = some (.int .i64 u.k) ∧ W.cell? ⟨gm, om + j * 5 + 1, none⟩ = some (.string u.tx) ∧ W.cell? ⟨gm, om + j * 5 + 2, none⟩ = some (.int .i64 u.a) ∧ W.cell? ⟨gm, om + j * 5 + 3, none⟩ = some (.int .i64 u.e) ∧ W.cell? ⟨gm, om + j * 5 + 4, none⟩ = some (.bool u.sp))) (by kernel_rfl) hS0 (fun hS => ?_)
                    clear hS0
                    refine take_at (i := 0) (d := 43) (v := .slice (some ⟨gl, ol, none⟩) LP.length c1) rfl rfl (by kernel_rfl) (by kernel_rfl) (by kernel_rfl) (fun _ _ _ h => h) (Or.inl ⟨by rfl, ?_⟩) hS ?_
                    · rintro W ⟨⟨x0, x1, x2, x3, x4⟩, y0, y1, y2, y3, y4⟩
                      go_simp
                    simp only [List.setIfInBounds_toArray, List.set_cons_zero, List.set_cons_succ]
                    refine take_at (i := 1) (d := 44) (v := .int .i64 j) rfl rfl (by kernel_rfl) (by kernel_rfl) (by kernel_rfl) (fun _ _ _ h => h) (Or.inl ⟨by rfl, ?_⟩) hS ?_
                    · rintro W ⟨⟨x0, x1, x2, x3, x4⟩, y0, y1, y2, y3, y4⟩
                      go_simp
                    simp only [List.setIfInBounds_toArray, List.set_cons_zero, List.set_cons_succ]
                    refine take_at (i := 2) (d := 45) (v := .pointer (some ⟨gl, ol + j * 5, none⟩)) rfl rfl (by kernel_rfl) (by kernel_rfl) (by kernel_rfl) (fun _ _ _ h => h) (Or.inl ⟨by rfl, ?_⟩) hS ?_
                    · rintro W ⟨⟨x0, x1, x2, x3, x4⟩, y0, y1, y2, y3, y4⟩
                      go_simp
                    simp only [List.setIfInBounds_toArray, List.set_cons_zero, List.set_cons_succ]
                    refine take_at (i := 3) (d := 46) (v := .agg #[.int .i64 t.k, .string t.tx, .int .i64 t.a, .int .i64 t.e, .bool t.sp]) rfl rfl (by kernel_rfl) (by kernel_rfl) (by kernel_rfl) (fun _ _ _ h => h) (Or.inl ⟨by rfl, ?_⟩) hS ?_
                    · rintro W ⟨⟨x0, x1, x2, x3, x4⟩, y0, y1, y2, y3, y4⟩
                      go_simp
                    simp only [List.setIfInBounds_toArray, List.set_cons_zero, List.set_cons_succ]
                    refine take_at (i := 4) (d := 47) (v := .bool true) rfl rfl (by kernel_rfl) (by kernel_rfl) (by kernel_rfl) (fun _ _ _ h => h) (Or.inl ⟨by rfl, ?_⟩) hS ?_
                    · rintro W ⟨⟨x0, x1, x2, x3, x4⟩, y0, y1, y2, y3, y4⟩
                      go_simp
                    simp only [List.setIfInBounds_toArray, List.set_cons_zero, List.set_cons_succ]
                    refine take_at (i := 5) (d := 48) (v := .bool true) rfl rfl (by kernel_rfl) (by kernel_rfl) (by kernel_rfl) (fun _ _ _ h => h) (Or.inl ⟨by rfl, ?_⟩) hS ?_
                    · rintro W ⟨⟨x0, x1, x2, x3, x4⟩, y0, y1, y2, y3, y4⟩
                      go_simp
                    simp only [List.setIfInBounds_toArray, List.set_cons_zero, List.set_cons_succ]
                    refine take_at (i := 6) (d := 49) (v := .int .i64 j) rfl rfl (by kernel_rfl) (by kernel_rfl) (by kernel_rfl) (fun _ _ _ h => h) (Or.inl ⟨by rfl, ?_⟩) hS ?_
                    · rintro W ⟨⟨x0, x1, x2, x3, x4⟩, y0, y1, y2, y3, y4⟩
                      go_simp
                    simp only [List.setIfInBounds_toArray, List.set_cons_zero, List.set_cons_succ]
                    refine take_at (i := 7) (d := 50) (v := .bool true) rfl rfl (by kernel_rfl) (by kernel_rfl) (by kernel_rfl) (fun _ _ _ h => h) (Or.inl ⟨by rfl, ?_⟩) hS ?_
                    · rintro W ⟨⟨x0, x1, x2, x3, x4⟩, y0, y1, y2, y3, y4⟩
                      go_simp
                    simp only [List.setIfInBounds_toArray, List.set_cons_zero, List.set_cons_succ]
                    refine take_at (i := 8) (d := 51) (v := .bool true) rfl rfl (by kernel_rfl) (by kernel_rfl) (by kernel_rfl) (fun _ _ _ h => h) (Or.inl ⟨by rfl, ?_⟩) hS ?_
                    · rintro W ⟨⟨x0, x1, x2, x3, x4⟩, y0, y1, y2, y3, y4⟩
                      go_simp
                    simp only [List.setIfInBounds_toArray, List.set_cons_zero, List.set_cons_succ]
                    refine take_at (i := 10) (d := 53) (v := .slice (some ⟨gm, om, none⟩) LQ.length c2) rfl rfl (by kernel_rfl) (by kernel_rfl) (by kernel_rfl) (fun _ _ _ h => h) (Or.inl ⟨by rfl, ?_⟩) hS ?_
                    · rintro W ⟨⟨x0, x1, x2, x3, x4⟩, y0, y1, y2, y3, y4⟩
                      go_simp
                    simp only [List.setIfInBounds_toArray, List.set_cons_zero, List.set_cons_succ]
                    refine take_at (i := 11) (d := 54) (v := .int .i64 j) rfl rfl (by kernel_rfl) (by kernel_rfl) (by kernel_rfl) (fun _ _ _ h => h) (Or.inl ⟨by rfl, ?_⟩) hS ?_
                    · rintro W ⟨⟨x0, x1, x2, x3, x4⟩, y0, y1, y2, y3, y4⟩
                      go_simp
                    simp only [List.setIfInBounds_toArray, List.set_cons_zero, List.set_cons_succ]
                    refine take_at (i := 12) (d := 55) (v := .pointer (some ⟨gm, om + j * 5, none⟩)) rfl rfl (by kernel_rfl) (by kernel_rfl) (by kernel_rfl) (fun _ _ _ h => h) (Or.inl ⟨by rfl, ?_⟩) hS ?_
                    · rintro W ⟨⟨x0, x1, x2, x3, x4⟩, y0, y1, y2, y3, y4⟩
                      go_simp
                    simp only [List.setIfInBounds_toArray, List.set_cons_zero, List.set_cons_succ]
                    refine take_at (i := 13) (d := 56) (v := .agg #[.int .i64 u.k, .string u.tx, .int .i64 u.a, .int .i64 u.e, .bool u.sp]) rfl rfl (by kernel_rfl) (by kernel_rfl) (by kernel_rfl) (fun _ _ _ h => h) (Or.inl ⟨by rfl, ?_⟩) hS ?_
                    · rintro W ⟨⟨x0, x1, x2, x3, x4⟩, y0, y1, y2, y3, y4⟩
                      go_simp
                    simp only [List.setIfInBounds_toArray, List.set_cons_zero, List.set_cons_succ]
                    refine take_at (i := 14) (d := 57) (v := .bool true) rfl rfl (by kernel_rfl) (by kernel_rfl) (by kernel_rfl) (fun _ _ _ h => h) (Or.inl ⟨by rfl, ?_⟩) hS ?_
                    · rintro W ⟨⟨x0, x1, x2, x3, x4⟩, y0, y1, y2, y3, y4⟩
                      go_simp
                    simp only [List.setIfInBounds_toArray, List.set_cons_zero, List.set_cons_succ]
                    refine wpAnyH_ready (rs := [9]) (by kernel_rfl) (by simp) ?_
                    refine AllReadyH.cons rfl (fun K hK => ?_) AllReadyH.nil
                    go_simp
                    refine (CT _).mono ?_
                    rintro e wt ⟨rfl, hnt⟩
                    have hbt : Below wc.heap.size wc wt := (below_drewN hbx 1).trans (hnt.mono (below_drewN hbx 1).size)
                    go_wp2_with fail
                    refine hK.out _ _ (HCE.out _ hbt) (fun hS => ?_)
                    clear hK K
                    refine take_at (i := 15) (d := 58) (v := .bool true) rfl rfl (by kernel_rfl) (by kernel_rfl) (by kernel_rfl) (fun _ _ _ h => h) (Or.inl ⟨by rfl, ?_⟩) hS ?_
                    · rintro W ⟨⟨x0, x1, x2, x3, x4⟩, y0, y1, y2, y3, y4⟩
                      go_simp
                    simp only [List.setIfInBounds_toArray, List.set_cons_zero, List.set_cons_succ]
                    refine take_at (i := 16) (d := 59) (v := .int .i64 j) rfl rfl (by kernel_rfl) (by kernel_rfl) (by kernel_rfl) (fun _ _ _ h => h) (Or.inl ⟨by rfl, ?_⟩) hS ?_
                    · rintro W ⟨⟨x0, x1, x2, x3, x4⟩, y0, y1, y2, y3, y4⟩
                      go_simp
                    simp only [List.setIfInBounds_toArray, List.set_cons_zero, List.set_cons_succ]
                    refine take_at (i := 17) (d := 60) (v := .bool true) rfl rfl (by kernel_rfl) (by kernel_rfl) (by kernel_rfl) (fun _ _ _ h => h) (Or.inl ⟨by rfl, ?_⟩) hS ?_
                    · rintro W ⟨⟨x0, x1, x2, x3, x4⟩, y0, y1, y2, y3, y4⟩
                      go_simp
                    simp only [List.setIfInBounds_toArray, List.set_cons_zero, List.set_cons_succ]
                    refine take_at (i := 18) (d := 61) (v := .bool true) rfl rfl (by kernel_rfl) (by kernel_rfl) (by kernel_rfl) (fun _ _ _ h => h) (Or.inl ⟨by rfl, ?_⟩) hS ?_
                    · rintro W ⟨⟨x0, x1, x2, x3, x4⟩, y0, y1, y2, y3, y4⟩
                      go_simp
                    simp only [List.setIfInBounds_toArray, List.set_cons_zero, List.set_cons_succ]
                    refine wpAnyH_ready (rs := [19]) (by kernel_rfl) (by simp) ?_
                    refine AllReadyH.cons rfl (fun K hK => ?_) AllReadyH.nil
                    go_simp
                    refine (CU _).mono ?_
                    rintro e wu ⟨rfl, hnu⟩
                    have hbu : Below wc.heap.size wc wu := hbt.trans (hnu.mono hbt.size)
                    go_wp2_with fail
                    refine hK.out _ _ (HCE.out _ hbu) (fun hS => ?_)
                    clear hK K
                    refine take_at (i := 20) (d := 63) (v := .bool N) rfl rfl (by kernel_rfl) (by kernel_rfl) (by kernel_rfl) (fun _ _ _ h => h) (Or.inl ⟨by rfl, ?_⟩) hS ?_
                    · rintro W ⟨⟨x0, x1, x2, x3, x4⟩, y0, y1, y2, y3, y4⟩
                      (go_simp; rw [← HNE.out]; first | exact said2 | exact said3)
                    simp only [List.setIfInBounds_toArray, List.set_cons_zero, List.set_cons_succ]
                    refine wpAnyH_done (by kernel_rfl) ?_ _
                    have hBu : Below w.heap.size w wu := hBd.trans (hbu.mono hBd.size)
                    clear hnt hnu CT CU hS HCE HNE
                    cases N with
                    | true =>
                      have HF : Hid (R = false) := Lib.hid (by rw [HJ.out, HNT.out]; rfl)
                      clear HJ HNT
                      go_wp2
                      go_ret
                      exact ⟨rb (by rw [HF.out]), hBu⟩
                    | false =>
                      have HN : Hid (R = toksAl true (j + 1) (LP.drop (j + 1)) (LQ.drop (j + 1))) := Lib.hid (by rw [HJ.out, HNT.out]; rfl)
                      clear HJ HNT
                      go_wp2
                      refine ⟨⟨j + 1, by omega, by go_num, HN, hbu⟩, ?_⟩
                      simp [intOf]; omega
                  · have jf : ¬ (0 : Int) < (j : Int) := by omega
                    have jg : decide ((0 : Int) < (j : Int)) = false := decide_eq_false jf
                    have CT : ∀ w' : World, Calls Try.prog 45 #[.agg #[.int .i64 t.k, .string t.tx, .int .i64 t.a, .int .i64 t.e, .bool t.sp], .bool false] w' fun e w'' => e = .returned (.agg #[.int .i64 t.k, .string t.tx, .bool false]) ∧ Below w'.heap.size w' w'' := fun w' => saying_any t false w'
                    have CU : ∀ w' : World, Calls Try.prog 45 #[.agg #[.int .i64 u.k, .string u.tx, .int .i64 u.a, .int .i64 u.e, .bool u.sp], .bool false] w' fun e w'' => e = .returned (.agg #[.int .i64 u.k, .string u.tx, .bool false]) ∧ Below w'.heap.size w' w'' := fun w' => saying_any u false w'
                    obtain ⟨N, hN⟩ : ∃ N, (!(t.k == u.k && t.tx.toList == u.tx.toList && (false == false))) = N := ⟨_, rfl⟩
                    have HNT : Hid (tokAl true j t u = !N) := Lib.hid (by rw [← hN]; unfold tokAl; simp [hj0])
                    have HNE := Lib.hid hN
                    clear hN l0 l1 l2 l3 l4 m0 m1 m2 m3 m4
                    go_upto_region 10 with fail
                    have hS0 : (fun W : World => (W.cell? ⟨gl, ol + j * 5, none⟩ = some (.int .i64 t.k) ∧ W.cell? ⟨gl, ol + j * 5 + 1, none⟩ = some (.string t.tx) ∧ W.cell? ⟨gl, ol + j * 5 + 2, none⟩ = some (.int .i64 t.a) ∧ W.cell? ⟨gl, ol + j * 5 + 3, none⟩ = some (.int .i64 t.e) ∧ W.cell? ⟨gl, ol + j * 5 + 4, none⟩ = some (.bool t.sp)) ∧ W.cell? ⟨gm, om + j * 5, none⟩ = some (.int .i64 u.k) ∧ W.cell? ⟨gm, om + j * 5 + 1, none⟩ = some (.string u.tx) ∧ W.cell? ⟨gm, om + j * 5 + 2, none⟩ = some (.int .i64 u.a) ∧ W.cell? ⟨gm, om + j * 5 + 3, none⟩ = some (.int .i64 u.e) ∧ W.cell? ⟨gm, om + j * 5 + 4, none⟩ = some (.bool u.sp)) wr.drew := HCE.out _ (below_drewN hbx 1)
                    refine wp_region_held_drew (S := (fun W : World => (W.cell? ⟨gl, ol + j * 5, none⟩ = some (.int .i64 t.k) ∧ W.cell? ⟨gl, ol + j * 5 + 1, none⟩ = some (.string t.tx) ∧ W.cell? ⟨gl, ol + j * 5 + 2, none⟩ = some (.int .i64 t.a) ∧ W.cell? ⟨gl, ol + j * 5 + 3, none⟩ = some (.int .i64 t.e) ∧ W.cell? ⟨gl, ol + j * 5 + 4, none⟩ = some (.bool t.sp)) ∧ W.cell? ⟨gm, om + j * 5, none⟩ = some (.int .i64 u.k) ∧ W.cell? ⟨gm, om + j * 5 + 1, none⟩ = some (.string u.tx) ∧ W.cell? ⟨gm, om + j * 5 + 2, none⟩ = some (.int .i64 u.a) ∧ W.cell? ⟨gm, om + j * 5 + 3, none⟩ = some (.int .i64 u.e) ∧ W.cell? ⟨gm, om + j * 5 + 4, none⟩ = some (.bool u.sp))) (by kernel_rfl) hS0 (fun hS => ?_)
                    clear hS0
                    refine take_at (i := 0) (d := 43) (v := .slice (some ⟨gl, ol, none⟩) LP.length c1) rfl rfl (by kernel_rfl) (by kernel_rfl) (by kernel_rfl) (fun _ _ _ h => h) (Or.inl ⟨by rfl, ?_⟩) hS ?_
                    · rintro W ⟨⟨x0, x1, x2, x3, x4⟩, y0, y1, y2, y3, y4⟩
                      go_simp
                    simp only [List.setIfInBounds_toArray, List.set_cons_zero, List.set_cons_succ]
                    refine take_at (i := 1) (d := 44) (v := .int .i64 j) rfl rfl (by kernel_rfl) (by kernel_rfl) (by kernel_rfl) (fun _ _ _ h => h) (Or.inl ⟨by rfl, ?_⟩) hS ?_
                    · rintro W ⟨⟨x0, x1, x2, x3, x4⟩, y0, y1, y2, y3, y4⟩
                      go_simp
                    simp only [List.setIfInBounds_toArray, List.set_cons_zero, List.set_cons_succ]
                    refine take_at (i := 2) (d := 45) (v := .pointer (some ⟨gl, ol + j * 5, none⟩)) rfl rfl (by kernel_rfl) (by kernel_rfl) (by kernel_rfl) (fun _ _ _ h => h) (Or.inl ⟨by rfl, ?_⟩) hS ?_
                    · rintro W ⟨⟨x0, x1, x2, x3, x4⟩, y0, y1, y2, y3, y4⟩
                      go_simp
                    simp only [List.setIfInBounds_toArray, List.set_cons_zero, List.set_cons_succ]
                    refine take_at (i := 3) (d := 46) (v := .agg #[.int .i64 t.k, .string t.tx, .int .i64 t.a, .int .i64 t.e, .bool t.sp]) rfl rfl (by kernel_rfl) (by kernel_rfl) (by kernel_rfl) (fun _ _ _ h => h) (Or.inl ⟨by rfl, ?_⟩) hS ?_
                    · rintro W ⟨⟨x0, x1, x2, x3, x4⟩, y0, y1, y2, y3, y4⟩
                      go_simp
                    simp only [List.setIfInBounds_toArray, List.set_cons_zero, List.set_cons_succ]
                    refine take_at (i := 4) (d := 47) (v := .bool true) rfl rfl (by kernel_rfl) (by kernel_rfl) (by kernel_rfl) (fun _ _ _ h => h) (Or.inl ⟨by rfl, ?_⟩) hS ?_
                    · rintro W ⟨⟨x0, x1, x2, x3, x4⟩, y0, y1, y2, y3, y4⟩
                      go_simp
                    simp only [List.setIfInBounds_toArray, List.set_cons_zero, List.set_cons_succ]
                    refine take_at (i := 5) (d := 48) (v := .bool true) rfl rfl (by kernel_rfl) (by kernel_rfl) (by kernel_rfl) (fun _ _ _ h => h) (Or.inl ⟨by rfl, ?_⟩) hS ?_
                    · rintro W ⟨⟨x0, x1, x2, x3, x4⟩, y0, y1, y2, y3, y4⟩
                      go_simp
                    simp only [List.setIfInBounds_toArray, List.set_cons_zero, List.set_cons_succ]
                    refine take_at (i := 6) (d := 49) (v := .int .i64 j) rfl rfl (by kernel_rfl) (by kernel_rfl) (by kernel_rfl) (fun _ _ _ h => h) (Or.inl ⟨by rfl, ?_⟩) hS ?_
                    · rintro W ⟨⟨x0, x1, x2, x3, x4⟩, y0, y1, y2, y3, y4⟩
                      go_simp
                    simp only [List.setIfInBounds_toArray, List.set_cons_zero, List.set_cons_succ]
                    refine take_at (i := 7) (d := 50) (v := .bool false) rfl rfl (by kernel_rfl) (by kernel_rfl) (by kernel_rfl) (fun _ _ _ h => h) (Or.inl ⟨by rfl, ?_⟩) hS ?_
                    · rintro W ⟨⟨x0, x1, x2, x3, x4⟩, y0, y1, y2, y3, y4⟩
                      go_simp
                    simp only [List.setIfInBounds_toArray, List.set_cons_zero, List.set_cons_succ]
                    refine take_at (i := 8) (d := 51) (v := .bool false) rfl rfl (by kernel_rfl) (by kernel_rfl) (by kernel_rfl) (fun _ _ _ h => h) (Or.inl ⟨by rfl, ?_⟩) hS ?_
                    · rintro W ⟨⟨x0, x1, x2, x3, x4⟩, y0, y1, y2, y3, y4⟩
                      go_simp
                    simp only [List.setIfInBounds_toArray, List.set_cons_zero, List.set_cons_succ]
                    refine take_at (i := 10) (d := 53) (v := .slice (some ⟨gm, om, none⟩) LQ.length c2) rfl rfl (by kernel_rfl) (by kernel_rfl) (by kernel_rfl) (fun _ _ _ h => h) (Or.inl ⟨by rfl, ?_⟩) hS ?_
                    · rintro W ⟨⟨x0, x1, x2, x3, x4⟩, y0, y1, y2, y3, y4⟩
                      go_simp
                    simp only [List.setIfInBounds_toArray, List.set_cons_zero, List.set_cons_succ]
                    refine take_at (i := 11) (d := 54) (v := .int .i64 j) rfl rfl (by kernel_rfl) (by kernel_rfl) (by kernel_rfl) (fun _ _ _ h => h) (Or.inl ⟨by rfl, ?_⟩) hS ?_
                    · rintro W ⟨⟨x0, x1, x2, x3, x4⟩, y0, y1, y2, y3, y4⟩
                      go_simp
                    simp only [List.setIfInBounds_toArray, List.set_cons_zero, List.set_cons_succ]
                    refine take_at (i := 12) (d := 55) (v := .pointer (some ⟨gm, om + j * 5, none⟩)) rfl rfl (by kernel_rfl) (by kernel_rfl) (by kernel_rfl) (fun _ _ _ h => h) (Or.inl ⟨by rfl, ?_⟩) hS ?_
                    · rintro W ⟨⟨x0, x1, x2, x3, x4⟩, y0, y1, y2, y3, y4⟩
                      go_simp
                    simp only [List.setIfInBounds_toArray, List.set_cons_zero, List.set_cons_succ]
                    refine take_at (i := 13) (d := 56) (v := .agg #[.int .i64 u.k, .string u.tx, .int .i64 u.a, .int .i64 u.e, .bool u.sp]) rfl rfl (by kernel_rfl) (by kernel_rfl) (by kernel_rfl) (fun _ _ _ h => h) (Or.inl ⟨by rfl, ?_⟩) hS ?_
                    · rintro W ⟨⟨x0, x1, x2, x3, x4⟩, y0, y1, y2, y3, y4⟩
                      go_simp
                    simp only [List.setIfInBounds_toArray, List.set_cons_zero, List.set_cons_succ]
                    refine take_at (i := 14) (d := 57) (v := .bool true) rfl rfl (by kernel_rfl) (by kernel_rfl) (by kernel_rfl) (fun _ _ _ h => h) (Or.inl ⟨by rfl, ?_⟩) hS ?_
                    · rintro W ⟨⟨x0, x1, x2, x3, x4⟩, y0, y1, y2, y3, y4⟩
                      go_simp
                    simp only [List.setIfInBounds_toArray, List.set_cons_zero, List.set_cons_succ]
                    refine wpAnyH_ready (rs := [9]) (by kernel_rfl) (by simp) ?_
                    refine AllReadyH.cons rfl (fun K hK => ?_) AllReadyH.nil
                    go_simp
                    refine (CT _).mono ?_
                    rintro e wt ⟨rfl, hnt⟩
                    have hbt : Below wc.heap.size wc wt := (below_drewN hbx 1).trans (hnt.mono (below_drewN hbx 1).size)
                    go_wp2_with fail
                    refine hK.out _ _ (HCE.out _ hbt) (fun hS => ?_)
                    clear hK K
                    refine take_at (i := 15) (d := 58) (v := .bool true) rfl rfl (by kernel_rfl) (by kernel_rfl) (by kernel_rfl) (fun _ _ _ h => h) (Or.inl ⟨by rfl, ?_⟩) hS ?_
                    · rintro W ⟨⟨x0, x1, x2, x3, x4⟩, y0, y1, y2, y3, y4⟩
                      go_simp
                    simp only [List.setIfInBounds_toArray, List.set_cons_zero, List.set_cons_succ]
                    refine take_at (i := 16) (d := 59) (v := .int .i64 j) rfl rfl (by kernel_rfl) (by kernel_rfl) (by kernel_rfl) (fun _ _ _ h => h) (Or.inl ⟨by rfl, ?_⟩) hS ?_
                    · rintro W ⟨⟨x0, x1, x2, x3, x4⟩, y0, y1, y2, y3, y4⟩
                      go_simp
                    simp only [List.setIfInBounds_toArray, List.set_cons_zero, List.set_cons_succ]
                    refine take_at (i := 17) (d := 60) (v := .bool false) rfl rfl (by kernel_rfl) (by kernel_rfl) (by kernel_rfl) (fun _ _ _ h => h) (Or.inl ⟨by rfl, ?_⟩) hS ?_
                    · rintro W ⟨⟨x0, x1, x2, x3, x4⟩, y0, y1, y2, y3, y4⟩
                      go_simp
                    simp only [List.setIfInBounds_toArray, List.set_cons_zero, List.set_cons_succ]
                    refine take_at (i := 18) (d := 61) (v := .bool false) rfl rfl (by kernel_rfl) (by kernel_rfl) (by kernel_rfl) (fun _ _ _ h => h) (Or.inl ⟨by rfl, ?_⟩) hS ?_
                    · rintro W ⟨⟨x0, x1, x2, x3, x4⟩, y0, y1, y2, y3, y4⟩
                      go_simp
                    simp only [List.setIfInBounds_toArray, List.set_cons_zero, List.set_cons_succ]
                    refine wpAnyH_ready (rs := [19]) (by kernel_rfl) (by simp) ?_
                    refine AllReadyH.cons rfl (fun K hK => ?_) AllReadyH.nil
                    go_simp
                    refine (CU _).mono ?_
                    rintro e wu ⟨rfl, hnu⟩
                    have hbu : Below wc.heap.size wc wu := hbt.trans (hnu.mono hbt.size)
                    go_wp2_with fail
                    refine hK.out _ _ (HCE.out _ hbu) (fun hS => ?_)
                    clear hK K
                    refine take_at (i := 20) (d := 63) (v := .bool N) rfl rfl (by kernel_rfl) (by kernel_rfl) (by kernel_rfl) (fun _ _ _ h => h) (Or.inl ⟨by rfl, ?_⟩) hS ?_
                    · rintro W ⟨⟨x0, x1, x2, x3, x4⟩, y0, y1, y2, y3, y4⟩
                      (go_simp; rw [← HNE.out]; first | exact said2 | exact said3)
                    simp only [List.setIfInBounds_toArray, List.set_cons_zero, List.set_cons_succ]
                    refine wpAnyH_done (by kernel_rfl) ?_ _
                    have hBu : Below w.heap.size w wu := hBd.trans (hbu.mono hBd.size)
                    clear hnt hnu CT CU hS HCE HNE
                    cases N with
                    | true =>
                      have HF : Hid (R = false) := Lib.hid (by rw [HJ.out, HNT.out]; rfl)
                      clear HJ HNT
                      go_wp2
                      go_ret
                      exact ⟨rb (by rw [HF.out]), hBu⟩
                    | false =>
                      have HN : Hid (R = toksAl true (j + 1) (LP.drop (j + 1)) (LQ.drop (j + 1))) := Lib.hid (by rw [HJ.out, HNT.out]; rfl)
                      clear HJ HNT
                      go_wp2
                      refine ⟨⟨j + 1, by omega, by go_num, HN, hbu⟩, ?_⟩
                      simp [intOf]; omega
              · have HN : Hid (R = true) := Lib.hid (by rw [HJ0.out, toksAl_end (by omega)])
                clear HJ0
                go_wp2
                go_ret
                exact ⟨rb (by rw [HN.out]), hBd.trans (hbx.mono hBd.size)⟩
        · have lf : ((LP.length : Int) != (LQ.length : Int)) = true := by rw [bne_iff_ne]; omega
          have HF3 : Hid (R = false) := Lib.hid (by rw [HRB.out]; simp [hll])
          clear HRB hll
          go_wp2
          go_ret
          exact ⟨rb (by rw [HF3.out]), hB2⟩
    · have nf : (!(p.nm.toList == q.nm.toList)) = true := by simpa using hnn
      have HF3 : Hid (R = false) := Lib.hid (by rw [HRA.out, Bool.eq_false_iff.2 hnn]; simp)
      clear HRA hdd hnn
      go_wp2
      go_ret
      exact ⟨rb (by rw [HF3.out]), hb0⟩
  · have df : (!(p.d == q.d)) = true := by simp [hdd]
    have HF3 : Hid (R = false) := Lib.hid (by rw [HRA.out, show (p.d == q.d) = false by simpa using hdd]; simp)
    clear HRA hdd
    go_wp2
    go_ret
    exact ⟨rb (by rw [HF3.out]), hb0⟩

end Go.Proofs.Ytpomcdolpmbhdaa

namespace Go.Proofs.Ytpomcdolpmbhdaa
open Go.RowKit Go.Shelf

/-- Where the first row that counts stands; -1: nowhere. -/
def firstT : List Rz → Nat → Int
  | [], _ => -1
  | r :: l, k => if tellsB r then (k : Int) else firstT l (k + 1)
theorem firstT_step {l : List Rz} {k : Nat} {r : Rz} (h : l[k]? = some r) : firstT (l.drop k) k = if tellsB r then (k : Int) else firstT (l.drop (k + 1)) (k + 1) := by
  rw [List.drop_eq_getElem_cons (List.getElem?_eq_some_iff.1 h).1, (List.getElem?_eq_some_iff.1 h).2, firstT]
theorem firstT_end {l : List Rz} {k : Nat} (h : l.length ≤ k) : firstT (l.drop k) k = -1 := by
  rw [List.drop_eq_nil_of_le h]; rfl
theorem firstT_any : ∀ (l : List Rz) (k : Nat), decide (0 ≤ firstT l k) = l.any tellsB
  | [], k => rfl
  | r :: l, k => by
    rw [firstT, List.any_cons]
    cases tellsB r
    · simp only [Bool.false_or]; exact firstT_any l (k + 1)
    · simp
theorem firstT_fits : ∀ (l : List Rz) (k : Nat), -1 ≤ firstT l k
  | [], k => Int.le_refl _
  | r :: l, k => by
    rw [firstT]
    split
    · omega
    · exact firstT_fits l (k + 1)

set_option maxRecDepth 100000 in
set_option maxHeartbeats 4000000 in
theorem indexFunc_any (rs : List Rz) (n cap : Nat) (a : Option Addr) (w : World) (hn : rs.length = n) (hn2 : n * 48 ≤ 140737488355328) (hf : RowsFit rs) (hT : RzIn w a rs) :
    Calls Try.prog 46 #[.slice a n cap, .func (.func 34) #[] #[]] w fun e w' => e = .returned (.int .i64 (firstT rs 0)) ∧ Below w.heap.size w w' := by
  have HN := Lib.hid hn
  have HT := Lib.hid hT
  have HF := Lib.hid hf
  obtain ⟨R, hR⟩ : ∃ R, firstT rs 0 = R := ⟨_, rfl⟩
  rw [hR]
  have HR : Hid (R = firstT (rs.drop 0) 0) := Lib.hid hR.symm
  clear hn hT hf hR
  go_enter Try.func46, Try.ntmps46
  go_wp2
  go_loopw [8] (fun i wx => ∃ k : Nat, k ≤ n ∧ i = .int .i64 k ∧ Hid (R = firstT (rs.drop k) k) ∧ Below w.heap.size w wx) (fun i _ => n - (intOf i).toNat)
  case atStart => exact ⟨0, Nat.zero_le _, rfl, HR, Below.refl _ _⟩
  case round =>
    obtain ⟨k, hk, rfl, HK, hbx⟩ := hrel
    by_cases hlt : k < n
    · obtain ⟨r, hr⟩ : ∃ r, rs[k]? = some r := ⟨_, List.getElem?_eq_getElem (by rw [HN.out]; exact hlt)⟩
      obtain ⟨b, o, rfl, hg1, hrz⟩ := HT.out (by rw [HN.out]; omega)
      obtain ⟨c0, c1, ta, tcap, c2, htk⟩ := (hrz.below hbx hg1) k r hr
      obtain ⟨hrl, hrx⟩ := HF.out r (List.mem_of_getElem? hr)
      have hst := HK.out
      rw [firstT_step hr] at hst
      have CT := tells_any r ta tcap wr hrl hrx (htk.mono hbx.size)
      have HS := Lib.hid hst
      clear hr hrz htk hrx hst HK
      have j1 : (k : Int) < (n : Int) := by omega
      have j0 : (0 : Int) ≤ (k : Int) := by omega
      cases htl : tellsB r with
      | true =>
        rw [htl] at CT
        have HS2 : Hid (R = (k : Int)) := Lib.hid (by rw [HS.out, htl]; rfl)
        clear HS htl
        go_wp2_with fail
        refine CT.mono ?_
        rintro e w1 ⟨rfl, hb1⟩
        have hB1 := hbx.trans (hb1.mono hbx.size)
        go_wp2
        go_ret
        exact ⟨ri (by rw [HS2.out]), hB1⟩
      | false =>
        rw [htl] at CT
        have HS2 : Hid (R = firstT (rs.drop (k + 1)) (k + 1)) := Lib.hid (by rw [HS.out, htl]; rfl)
        clear HS htl
        go_wp2_with fail
        refine CT.mono ?_
        rintro e w1 ⟨rfl, hb1⟩
        have hB1 := hbx.trans (hb1.mono hbx.size)
        go_wp2
        refine ⟨⟨k + 1, by omega, by go_num, HS2, hB1⟩, ?_⟩
        simp [intOf]; omega
    · have HS2 : Hid (R = -1) := Lib.hid (by rw [HK.out]; exact firstT_end (by rw [HN.out]; omega))
      clear HK
      go_wp2
      go_ret
      exact ⟨ri (by rw [HS2.out]), hbx⟩

set_option maxHeartbeats 1000000 in
theorem containsFunc_any (rs : List Rz) (n cap : Nat) (a : Option Addr) (w : World) (hn : rs.length = n) (hn2 : n * 48 ≤ 140737488355328) (hf : RowsFit rs) (hT : RzIn w a rs) :
    Calls Try.prog 36 #[.slice a n cap, .func (.func 34) #[] #[]] w fun e w' => e = .returned (.bool (rs.any tellsB)) ∧ Below w.heap.size w w' := by
  have CI := indexFunc_any rs n cap a w hn hn2 hf hT
  have HA := Lib.hid (firstT_any rs 0)
  have hlo := firstT_fits rs 0
  obtain ⟨R, hR⟩ : ∃ R, firstT rs 0 = R := ⟨_, rfl⟩
  rw [hR] at CI HA hlo
  clear hn hT hf hR
  by_cases h0 : 0 ≤ R
  · have HB : Hid (rs.any tellsB = true) := Lib.hid (by rw [← HA.out]; exact decide_eq_true h0)
    clear HA
    go_enter Try.func36, Try.ntmps36
    go_wp2_with fail
    refine CI.mono ?_
    rintro e w1 ⟨rfl, hb1⟩
    go_wp2
    go_ret
    exact ⟨rb (by rw [HB.out] <;> simp [h0]), hb1⟩
  · have HB : Hid (rs.any tellsB = false) := Lib.hid (by rw [← HA.out]; exact decide_eq_false h0)
    clear HA
    go_enter Try.func36, Try.ntmps36
    go_wp2_with fail
    refine CI.mono ?_
    rintro e w1 ⟨rfl, hb1⟩
    go_wp2
    go_ret
    exact ⟨rb (by rw [HB.out] <;> simp [h0]), hb1⟩

end Go.Proofs.Ytpomcdolpmbhdaa

namespace Go.Proofs.Ytpomcdolpmbhdaa
open Go.RowKit Go.Shelf

/-- Two lists without runs that say nothing. -/
def alX (keep : Bool) (x y : List Rz) : Bool := x.length == y.length && rowsAl keep x y
theorem alX_cons (keep : Bool) (p q : Rz) (x y : List Rz) : alX keep (p :: x) (q :: y) = (rowAl keep p q && alX keep x y) := by
  unfold alX
  rw [rowsAl, List.length_cons, List.length_cons]
  have e : (x.length + 1 == y.length + 1) = (x.length == y.length) := by rw [Bool.eq_iff_iff]; simp
  rw [e]
  cases rowAl keep p q <;> cases (x.length == y.length) <;> simp
theorem alX_nil (keep : Bool) (p : Rz) (x : List Rz) : alX keep (p :: x) [] = false := by
  unfold alX
  simp
theorem alX_end (keep : Bool) (y : List Rz) : alX keep [] y = y.isEmpty := by
  unfold alX rowsAl
  cases y <;> simp
theorem lessS_drop {l : List Rz} {k : Nat} {r : Rz} (h : l[k]? = some r) : lessS (l.drop k) = if tellsB r then r :: lessS (l.drop (k + 1)) else lessS (l.drop (k + 1)) := by
  rw [List.drop_eq_getElem_cons (List.getElem?_eq_some_iff.1 h).1, (List.getElem?_eq_some_iff.1 h).2]
  unfold lessS
  rw [List.filter_cons]
theorem lessS_none {l : List Rz} : (lessS l).isEmpty = !(l.any tellsB) := by
  unfold lessS
  induction l with
  | nil => rfl
  | cons r l ih =>
    rw [List.filter_cons, List.any_cons]
    cases tellsB r
    · simpa using ih
    · rfl
theorem RzAt.drop {W : World} {B b o : Nat} {rs : List Rz} (h : RzAt W B b o rs) (i : Nat) : RzAt W B b (o + i * 3) (rs.drop i) := fun j r hr => by
  rw [List.getElem?_drop] at hr
  have := h (i + j) r hr
  have e : o + (i + j) * 3 = o + i * 3 + j * 3 := by omega
  rw [e] at this
  exact this

set_option maxRecDepth 100000 in
set_option maxHeartbeats 8000000 in
theorem alike_any : AlikeOk := by
  intro n1 n2 c1 c2 a1 a2 keep w rs qs hn1 hn2 hb1 hb2 hc2 ht1 ht2 hT1 hT2
  have hf1 : RowsFit rs := fun r h => ⟨(ht1 r h).1, fun t ht => Nat.le_trans ((ht1 r h).2 t ht) (by decide)⟩
  have hf2 : RowsFit qs := fun r h => ⟨(ht2 r h).1, fun t ht => Nat.le_trans ((ht2 r h).2 t ht) (by decide)⟩
  have HN1 := Lib.hid hn1
  have HN2 := Lib.hid hn2
  have HT1 := Lib.hid hT1
  have HF1 := Lib.hid hf1
  have HQ0 : Hid (RowsFit qs ∧ RzIn w a2 qs) := Lib.hid ⟨hf2, hT2⟩
  obtain ⟨R, hR⟩ : ∃ R, alikeS rs qs keep = R := ⟨_, rfl⟩
  have HR : Hid (R = alX keep (lessS (rs.drop 0)) (lessS qs)) := Lib.hid hR.symm
  rw [hR]
  have hq2 : qs.length ≤ n2 := by omega
  clear hn1 hn2 hT1 hT2 hf1 hf2 ht1 ht2 hR
  go_enter Try.func19, Try.ntmps19
  go_wp2
  go_step3
  go_wp2
  go_step3
  go_wp2
  go_loopg [7, 15] n1 (fun gh rest i wx => ∃ (k m : Nat) (Q : List Rz) (ar : Option Addr) (cr : Nat), k ≤ n1 ∧ m ≤ n2 ∧ m ≤ cr ∧ rest = .slice ar m cr ∧ i = .int .i64 k ∧ gh = n1 - k ∧ Hid (Q.length = m) ∧ Hid (RowsFit Q ∧ RzIn wx ar Q) ∧ Hid (R = alX keep (lessS (rs.drop k)) (lessS Q)) ∧ Below w.heap.size w wx)
  case atStart => exact ⟨0, n2, qs, a2, c2, Nat.zero_le _, Nat.le_refl _, hc2, rfl, rfl, rfl, HN2, HQ0, HR, Below.refl _ _⟩
  case round =>
    obtain ⟨k, m, Q, ar, cr, hk, hm, hmc, rfl, rfl, rfl, HM, HQ, HK, hbx⟩ := hrel
    by_cases hlt : k < n1
    · obtain ⟨r, hr⟩ : ∃ r, rs[k]? = some r := ⟨_, List.getElem?_eq_getElem (by rw [HN1.out]; exact hlt)⟩
      obtain ⟨b, o, rfl, hg1, hrz⟩ := HT1.out (by rw [HN1.out]; omega)
      obtain ⟨c0, c1', ta, tcap, c2', htk⟩ := (hrz.below hbx hg1) k r hr
      obtain ⟨hrl, hrx⟩ := HF1.out r (List.mem_of_getElem? hr)
      have hst := HK.out
      rw [lessS_drop hr] at hst
      have CT := tells_any r ta tcap (wr.alloc (.cells #[.bool r.d, .string r.nm, .slice ta r.ts.length tcap] 28)) hrl hrx (TzIn.below (htk.mono hbx.size) (below1 wr _))
      have HS := Lib.hid hst
      have HRX := Lib.hid hrx
      have HTK := Lib.hid htk
      clear hr hrz htk hrx hst HK
      have hbs := hbx.size
      have j1 : (k : Int) < (n1 : Int) := by omega
      have j0 : (0 : Int) ≤ (k : Int) := by omega
      have hbw := below1 wr (.cells #[.bool r.d, .string r.nm, .slice ta r.ts.length tcap] 28)
      have hk1 := mcells (w := wr) (vs := #[.bool r.d, .string r.nm, .slice ta r.ts.length tcap]) (t := 28)
      have k0 := hk1 0 _ rfl
      have k1 := hk1 1 _ rfl
      have k2 := hk1 2 _ rfl
      clear hk1
      have hwz : wr.heap.size < (wr.alloc (.cells #[.bool r.d, .string r.nm, .slice ta r.ts.length tcap] 28)).heap.size := by simp
      cases htl : tellsB r with
      | false =>
        rw [htl] at CT
        have HS2 : Hid (R = alX keep (lessS (rs.drop (k + 1))) (lessS Q)) := Lib.hid (by rw [HS.out, htl]; rfl)
        clear HS htl
        go_wp2_with fail
        refine CT.mono ?_
        rintro e w1 ⟨rfl, hb1⟩
        have hW1 : Below wr.heap.size wr w1 := hbw.trans (hb1.mono hbw.size)
        have hB1 := hbx.trans (hW1.mono hbx.size)
        have HQ1 : Hid (RowsFit Q ∧ RzIn w1 ar Q) := Lib.hid ⟨HQ.out.1, HQ.out.2.below hW1⟩
        clear CT HQ
        go_wp2
        go_roundg (n1 - (k + 1))
        case rel => exact ⟨k + 1, m, Q, ar, cr, by omega, hm, hmc, rfl, by go_num, rfl, HM, HQ1, HS2, hB1⟩
        case measure => omega
      | true =>
        rw [htl] at CT
        have HS2 : Hid (R = alX keep (r :: lessS (rs.drop (k + 1))) (lessS (Q.drop 0))) := Lib.hid (by rw [HS.out, htl]; rfl)
        clear HS htl
        go_wp2_with fail
        refine CT.mono ?_
        rintro e w1 ⟨rfl, hb1⟩
        have hW1 : Below wr.heap.size wr w1 := hbw.trans (hb1.mono hbw.size)
        have hB1 := hbx.trans (hW1.mono hbx.size)
        have HQ1 : Hid (RowsFit Q ∧ RzIn w1 ar Q) := Lib.hid ⟨HQ.out.1, HQ.out.2.below hW1⟩
        have e0 := (hb1.cell (p := ⟨wr.heap.size, 0, none⟩) hwz).trans k0
        have e1 := (hb1.cell (p := ⟨wr.heap.size, 1, none⟩) hwz).trans k1
        have e2 := (hb1.cell (p := ⟨wr.heap.size, 2, none⟩) hwz).trans k2
        have HTK1 : Hid (TzIn w1 ta r.ts) := Lib.hid (TzIn.below (HTK.out.mono hbs) hW1)
        have hbz : wr.heap.size < w1.heap.size := Nat.lt_of_lt_of_le hwz hb1.size
        obtain ⟨B, hB⟩ : ∃ B, wr.heap.size = B := ⟨_, rfl⟩
        rw [hB] at e0 e1 e2 hbz
        clear CT HQ k0 k1 k2 HTK hbw hwz hW1 hb1
        rw [hB]
        clear hB
        go_wp2
        go_loopg [7, 24] m (fun gh2 rest i2 wx => ∃ j : Nat, j ≤ m ∧ rest = .slice ar m cr ∧ i2 = .int .i64 j ∧ gh2 = m - j ∧ Hid (R = alX keep (r :: lessS (rs.drop (k + 1))) (lessS (Q.drop j))) ∧ Below w1.heap.size w1 wx)
        case atStart => exact ⟨0, Nat.zero_le _, rfl, rfl, rfl, HS2, Below.refl _ _⟩
        case round =>
          obtain ⟨j, hj, rfl, rfl, rfl, HJ, hbj⟩ := hrel
          have hBj := hB1.trans (hbj.mono hB1.size)
          by_cases hjl : j < m
          · obtain ⟨s, hs⟩ : ∃ s, Q[j]? = some s := ⟨_, List.getElem?_eq_getElem (by rw [HM.out]; exact hjl)⟩
            obtain ⟨b2, o2, rfl, hg2, hrz2⟩ := HQ1.out.2 (by rw [HM.out]; omega)
            have hrz2x := hrz2.below hbj hg2
            obtain ⟨d0, d1, tb, tbcap, d2, htk2⟩ := hrz2x j s hs
            obtain ⟨hsl, hsx⟩ := HQ1.out.1 s (List.mem_of_getElem? hs)
            have hst := HJ.out
            rw [lessS_drop hs] at hst
            have htk2r : TzIn wr tb s.ts := htk2.mono hbj.size
            have hbw2 := below1 wr (.cells #[.bool s.d, .string s.nm, .slice tb s.ts.length tbcap] 28)
            have CT := tells_any s tb tbcap (wr.alloc (.cells #[.bool s.d, .string s.nm, .slice tb s.ts.length tbcap] 28)) hsl hsx (htk2r.below hbw2)
            have CS := fun (w' : World) (hb : Below wr.heap.size wr w') => sameRow_any r s ta tb tcap tbcap keep w' hrl hsl HRX.out hsx ((HTK1.out.below hbj).below hb) (htk2r.below hb)
            have HS := Lib.hid hst
            clear hs hrz2 hrz2x htk2 htk2r hsx hst HJ
            have hbjs := hbj.size
            have i1 : (j : Int) < (m : Int) := by omega
            have i0 : (0 : Int) ≤ (j : Int) := by omega
            have hk2 := mcells (w := wr) (vs := #[.bool s.d, .string s.nm, .slice tb s.ts.length tbcap]) (t := 28)
            have k0 := hk2 0 _ rfl
            have k1 := hk2 1 _ rfl
            have k2 := hk2 2 _ rfl
            clear hk2
            have hwz : wr.heap.size < (wr.alloc (.cells #[.bool s.d, .string s.nm, .slice tb s.ts.length tbcap] 28)).heap.size := by simp
            cases htl2 : tellsB s with
            | false =>
              rw [htl2] at CT
              have HS3 : Hid (R = alX keep (r :: lessS (rs.drop (k + 1))) (lessS (Q.drop (j + 1)))) := Lib.hid (by rw [HS.out, htl2]; rfl)
              clear HS htl2 CS
              go_wp2_with fail
              refine CT.mono ?_
              rintro e w2 ⟨rfl, hb2⟩
              have hW2 : Below wr.heap.size wr w2 := hbw2.trans (hb2.mono hbw2.size)
              have hb12 := hbj.trans (hW2.mono hbj.size)
              clear CT
              go_wp2
              go_roundg (m - (j + 1))
              case rel => exact ⟨j + 1, by omega, rfl, by go_num, rfl, HS3, hb12⟩
              case measure => omega
            | true =>
              rw [htl2] at CT
              have HS3 : Hid (R = (rowAl keep r s && alX keep (lessS (rs.drop (k + 1))) (lessS (Q.drop (j + 1))))) := Lib.hid (by rw [HS.out, htl2, if_pos rfl, alX_cons])
              clear HS htl2
              go_wp2_with fail
              refine CT.mono ?_
              rintro e w2 ⟨rfl, hb2⟩
              have hW2 : Below wr.heap.size wr w2 := hbw2.trans (hb2.mono hbw2.size)
              have f0 := (hb2.cell (p := ⟨wr.heap.size, 0, none⟩) hwz).trans k0
              have f1 := (hb2.cell (p := ⟨wr.heap.size, 1, none⟩) hwz).trans k1
              have f2 := (hb2.cell (p := ⟨wr.heap.size, 2, none⟩) hwz).trans k2
              have hb1w : Below w1.heap.size w1 w2 := hbj.trans (hW2.mono hbj.size)
              have g0 := (hb1w.cell (p := ⟨B, 0, none⟩) hbz).trans e0
              have g1 := (hb1w.cell (p := ⟨B, 1, none⟩) hbz).trans e1
              have g2 := (hb1w.cell (p := ⟨B, 2, none⟩) hbz).trans e2
              have CS2 := CS w2 hW2
              clear CT CS k0 k1 k2 hb2
              cases hsr : rowAl keep r s with
              | false =>
                rw [hsr] at CS2
                have HS4 : Hid (R = false) := Lib.hid (by rw [HS3.out, hsr]; rfl)
                clear HS3 hsr
                go_wp2_with fail
                refine CS2.mono ?_
                rintro e w3 ⟨rfl, hb3⟩
                have hB3 := hB1.trans ((hb1w.trans (hb3.mono hb1w.size)).mono hB1.size)
                clear CS2
                go_wp2
                try rw [Exit.noGoto_ret]
                go_ret
                exact ⟨rb (by rw [HS4.out]), hB3⟩
              | true =>
                rw [hsr] at CS2
                have HS4 : Hid (R = alX keep (lessS (rs.drop (k + 1))) (lessS (Q.drop (j + 1)))) := Lib.hid (by rw [HS3.out, hsr]; rfl)
                clear HS3 hsr
                go_wp2_with fail
                refine CS2.mono ?_
                rintro e w3 ⟨rfl, hb3⟩
                have hb13 := hb1w.trans (hb3.mono hb1w.size)
                have hB3 := hB1.trans (hb13.mono hB1.size)
                have HQ3 : Hid (RowsFit (Q.drop (j + 1)) ∧ ∀ B3, B3 = (some ⟨b2, o2 + (j + 1) * 3, none⟩ : Option Addr) → RzIn w3 B3 (Q.drop (j + 1))) := Lib.hid ⟨fun x hx => HQ1.out.1 x (List.mem_of_mem_drop hx), by
                  rintro _ rfl hp
                  have h1 := HQ1.out.2.below hb13 (by rw [List.length_drop] at hp; omega)
                  obtain ⟨b3, o3, e3, hg3, hz3⟩ := h1
                  cases e3
                  exact ⟨b2, o2 + (j + 1) * 3, rfl, hg3, hz3.drop (j + 1)⟩⟩
                have HM3 : Hid ((Q.drop (j + 1)).length = m - (j + 1)) := Lib.hid (by rw [List.length_drop, HM.out])
                have v3 : (0 : Int) ≤ (j : Int) + 1 := by omega
                have v4 : (j : Int) + 1 ≤ (m : Int) := by omega
                clear CS2 g0 g1 g2 f0 f1 f2 hb3 e0 e1 e2
                by_cases hcap : cr = j + 1
                · subst hcap
                  go_wp2
                  go_roundg (n1 - (k + 1))
                  case rel => exact ⟨k + 1, 0, Q.drop (j + 1), _, 0, by omega, by omega, by omega, rfl, by go_num, rfl, Lib.hid (by rw [HM3.out]; omega), Lib.hid ⟨HQ3.out.1, fun hp => absurd hp (by rw [HM3.out]; omega)⟩, HS4, hB3⟩
                  case measure => omega
                · have v5 : ¬ (cr : Int) = (j : Int) + 1 := by omega
                  go_wp2
                  go_roundg (n1 - (k + 1))
                  case rel => exact ⟨k + 1, m - (j + 1), Q.drop (j + 1), _, _, by omega, by omega, by omega, rfl, by go_num, rfl, HM3, Lib.hid ⟨HQ3.out.1, HQ3.out.2 _ rfl⟩, HS4, hB3⟩
                  case measure => omega
          · have HE : Hid (R = false) := Lib.hid (by rw [HJ.out, show Q.drop j = [] from List.drop_eq_nil_of_le (by rw [HM.out]; omega)]; exact alX_nil _ _ _)
            clear HJ
            go_wp2
            try rw [Exit.noGoto_ret]
            go_ret
            exact ⟨rb (by rw [HE.out]), hBj⟩
    · have HE : Hid (R = !(Q.any tellsB)) := Lib.hid (by
        rw [HK.out, List.drop_eq_nil_of_le (by rw [HN1.out]; omega), ← lessS_none]; exact alX_end keep _)
      have CC := containsFunc_any Q m cr ar wr HM.out (by omega) HQ.out.1 HQ.out.2
      clear HK HQ
      go_wp2_with fail
      refine CC.mono ?_
      rintro e w1 ⟨rfl, hb1⟩
      have hB1 := hbx.trans (hb1.mono hbx.size)
      cases hq : Q.any tellsB with
      | true =>
        have HE2 : Hid (R = false) := Lib.hid (by rw [HE.out, hq]; rfl)
        clear HE hq CC
        go_wp2
        try rw [Exit.noGoto_ret]
        go_ret
        exact ⟨rb (by rw [HE2.out]), hB1⟩
      | false =>
        have HE2 : Hid (R = true) := Lib.hid (by rw [HE.out, hq]; rfl)
        clear HE hq CC
        go_wp2
        try rw [Exit.noGoto_ret]
        go_ret
        exact ⟨rb (by rw [HE2.out]), hB1⟩

end Go.Proofs.Ytpomcdolpmbhdaa
