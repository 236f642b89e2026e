/- Several texts laid together. -/
import Derived.Test.YtenmapahigbbeaaGreatRxGD
import Derived.Deep.LoopGhost
import Derived.Deep.RegionHeld3
import Derived.Deep.DeepCutAuto
import Derived.Deep.RegionWith
import Derived.Laws.OwnMore
import Derived.ProofKit
import Derived.OpenShut
import Derived.Deep.Slices
import Derived.Deep.Fields
import Derived.ChangeArms
import Derived.SizedLaws

namespace Go.Proofs.YtenmapahigbbeaaGreat
open Go.RowKit Go.Shelf

def TzAt (W : World) (b o : Nat) (ts : List Tz) : Prop := ∀ i t, ts[i]? = some t → W.cell? ⟨b, o + i * 5, none⟩ = some (.int .i64 t.k) ∧ W.cell? ⟨b, o + i * 5 + 1, none⟩ = some (.string t.tx) ∧ W.cell? ⟨b, o + i * 5 + 2, none⟩ = some (.int .i64 t.a) ∧ W.cell? ⟨b, o + i * 5 + 3, none⟩ = some (.int .i64 t.e) ∧ W.cell? ⟨b, o + i * 5 + 4, none⟩ = some (.bool t.sp)
theorem TzAt.below {B b o : Nat} {W W' : World} {ys : List Tz} (h : TzAt W b o ys) (hb : Below B W W') (hg : b < B) : TzAt W' b o ys := fun i y hy => by
  have hc : ∀ o, W'.cell? ⟨b, o, none⟩ = W.cell? ⟨b, o, none⟩ := fun o => hb.cell (p := ⟨b, o, none⟩) hg
  rw [hc, hc, hc, hc, hc]
  exact h i y hy
theorem TzRow.at {W : World} {g : Nat} {ts : List Tz} (h : TzRow W g ts) : TzAt W g 0 ts := fun i t ht => by
  rw [Nat.zero_add]; exact h i t ht

/-- Is what the last token says what bareS keeps? -/
theorem bareS_ah {ts : List Tz} {j : Nat} {p : Tz} (h : ts[j]? = some p) : (bareS (ts.take (j + 1))).2 = outK p.k := by
  rw [bareS_snoc h]
  unfold bareStep
  cases outK p.k <;> rfl

theorem cell5_two (w : World) (o : Obj) (a b c d e : Value) (t : TypeId) : ∀ j x, [a, b, c, d, e][j]? = some x → ((w.alloc o).alloc (.cells #[a, b, c, d, e] t)).cell? ((⟨w.heap.size + 1, 0, none⟩ : Addr).add j) = some x := by
  have := cell5_new (w.alloc o) a b c d e t
  rw [World.size_alloc] at this
  exact this

set_option maxRecDepth 100000 in
set_option maxHeartbeats 4000000 in
theorem rbare_any (ts : List Tz) (n cap : Nat) (a : Option Addr) (w : World) (hn : ts.length = n) (hn2 : n * 48 ≤ 140737488355328)
    (hT : 0 < n → ∃ b o, a = some ⟨b, o, none⟩ ∧ b < w.heap.size ∧ TzAt w b o ts) :
    Calls Tryz.prog 27 #[.slice a n cap] w fun e w' => (∃ v, e = .returned v ∧ w'.ownsRow w.heap.size 34 5 v (bareS ts).1.length (tzCells (bareS ts).1)) ∧ Below w.heap.size w w' := by
  obtain ⟨i0, hi, hz0, hz1, hz2⟩ := info_parts infoTz
  have HN := Lib.hid hn
  have HT := Lib.hid hT
  clear hn hT
  go_enter Tryz.func27, Tryz.ntmps27
  go_wp2
  go_loopg [3, 4, 5] n (fun g v i _ wx => ∃ (k : Nat) (acc : List Tz) (ah : Bool), k ≤ n ∧ i = .int .i64 k ∧ g = n - k ∧ Hid (bareS (ts.take k) = (acc, ah)) ∧ wx.ownsRow w.heap.size 34 5 v acc.length (tzCells acc) ∧ Below w.heap.size w wx)
  case atStart => exact ⟨0, [], false, Nat.zero_le _, rfl, rfl, Lib.hid rfl, World.ownsRow_nil _ _ _ _, Below.refl _ _⟩
  case round =>
    obtain ⟨k, acc, ah, hk, rfl, rfl, HB, hrow, hbx⟩ := hrel
    by_cases hlt : k < n
    · obtain ⟨t, ht⟩ : ∃ t, ts[k]? = some t := ⟨_, List.getElem?_eq_getElem (by rw [HN.out]; exact hlt)⟩
      obtain ⟨b, o, rfl, hg1, hr⟩ := HT.out (by omega)
      have hr := hr.below hbx hg1
      obtain ⟨c0, c1, c2, c3, c4⟩ := hr k t ht
      have hB2 := bareS_snoc ht
      rw [HB.out] at hB2
      have HB2 := Lib.hid hB2
      have hal : acc.length ≤ k := by
        have := bareS_len (ts.take k)
        rw [HB.out, List.length_take] at this
        exact Nat.le_trans this (Nat.min_le_left _ _)
      have hbs := hbx.size
      clear ht hB2
      have j1 : (k : Int) < (n : Int) := by omega
      have j0 : (0 : Int) ≤ (k : Int) := by omega
      obtain ⟨tk, tt, ta, te, tsp⟩ := t
      simp only at c0 c1 c2 c3 c4
      cases h8 : (tk == 8)
      · cases h9 : (tk == 9)
        · have hst : bareStep (acc, ah) ⟨tk, tt, ta, te, tsp⟩ = (acc ++ [⟨tk, tt, ta, te, tsp || ah⟩], false) := by
            unfold bareStep outK; simp only [h8, h9]; rfl
          have HE := Lib.hid (HB2.out.trans hst)
          clear hst HB2
          by_cases hk0 : k = 0
          · have hah : ah = false := by
              have := HB.out
              rw [hk0] at this
              exact (congrArg Prod.snd this).symm
            subst hah
            have hz : ¬ (0 : Int) < (k : Int) := by omega
            clear hk0 hr
            have HE2 : Hid (bareS (ts.take (k + 1)) = (acc ++ [⟨tk, tt, ta, te, tsp⟩], false)) := Lib.hid (by rw [HE.out]; simp)
            clear HE
            go_wp2_with (at_builtin; refine wpList_append_own _ rfl _ _ 32 rfl w.heap.size 34 i0 (.agg #[.int .i64 0, .string ⟨#[]⟩, .int .i64 0, .int .i64 0, .bool false]) 5 48 Tryz.underlying32 hi hz0 hz1 hz2 rfl (by decide) _ _ _ rfl ((hrow.alloc _).alloc _) ⟨wr.heap.size + 1, 0, none⟩ 1 1 (tzCell ⟨tk, tt, ta, te, tsp⟩) rfl rfl (cell5_two _ _ _ _ _ _ _ _) (by simp [Value.oneCell', tzCell]) (by unfold maxLen; omega) (by omega) (by simp; omega) ?_; intro v' w3 hown hgrow hn3; clear hn3; have hL4 := hrow.lt; have hB4 := (hbx.alloc hbs (.cells #[.int .i64 tk, .string tt, .int .i64 ta, .int .i64 te, .bool tsp] 34)); have hB5 := (hB4.alloc hB4.size _).grown hgrow (by have := hB4.size; simp; omega) (fun j e => (hL4 j e).1))
            go_roundg (n - (k + 1))
            case rel =>
              refine ⟨k + 1, _, false, by omega, by go_num, rfl, HE2, ?_, hB5⟩
              rw [List.length_append, tzCells_snoc]
              exact hown
            case measure => omega
          · obtain ⟨j, rfl⟩ : ∃ j, k = j + 1 := ⟨k - 1, by omega⟩
            obtain ⟨p, hp⟩ : ∃ p, ts[j]? = some p := ⟨_, List.getElem?_eq_getElem (by rw [HN.out]; omega)⟩
            obtain ⟨p0, -⟩ := hr j p hp
            have hah : outK p.k = ah := by rw [← bareS_ah hp, HB.out]
            obtain ⟨pk, pt, pa, pe, psp⟩ := p
            simp only at p0 hah
            have p1 : (wr.alloc (.cells #[.int .i64 tk, .string tt, .int .i64 ta, .int .i64 te, .bool tsp] 34)).cell? ⟨b, o + j * 5, none⟩ = some (.int .i64 pk) := ((below1 wr _).cell (p := ⟨b, o + j * 5, none⟩) (show b < wr.heap.size by omega)).trans p0
            clear hk0 hr hp
            rw [show ((j + 1 : Nat) : Int) = (j : Int) + 1 from rfl] at j0 j1 ⊢
            have j2 : ((j : Int) + 1).toNat = j + 1 := by omega
            have j3 : (0 : Int) ≤ (j : Int) := by omega
            have j4 : (j : Int) < (n : Int) := by omega
            have j5 : (0 : Int) < (j : Int) + 1 := by omega
            cases p8 : (pk == 8)
            · cases p9 : (pk == 9)
              · obtain rfl : ah = false := by rw [← hah]; unfold outK; rw [p8, p9]; rfl
                clear hah
                have HE2 : Hid (bareS (ts.take (j + 1 + 1)) = (acc ++ [⟨tk, tt, ta, te, tsp⟩], false)) := Lib.hid (by rw [HE.out]; simp)
                clear HE
                go_wp2_with (at_builtin; refine wpList_append_own _ rfl _ _ 32 rfl w.heap.size 34 i0 (.agg #[.int .i64 0, .string ⟨#[]⟩, .int .i64 0, .int .i64 0, .bool false]) 5 48 Tryz.underlying32 hi hz0 hz1 hz2 rfl (by decide) _ _ _ rfl ((hrow.alloc _).alloc _) ⟨wr.heap.size + 1, 0, none⟩ 1 1 (tzCell ⟨tk, tt, ta, te, tsp⟩) rfl rfl (cell5_two _ _ _ _ _ _ _ _) (by simp [Value.oneCell', tzCell]) (by unfold maxLen; omega) (by omega) (by simp; omega) ?_; intro v' w3 hown hgrow hn3; clear hn3; have hL4 := hrow.lt; have hB4 := (hbx.alloc hbs (.cells #[.int .i64 tk, .string tt, .int .i64 ta, .int .i64 te, .bool tsp] 34)); have hB5 := (hB4.alloc hB4.size _).grown hgrow (by have := hB4.size; simp; omega) (fun j e => (hL4 j e).1))
                go_roundg (n - (j + 1 + 1))
                case rel =>
                  refine ⟨j + 1 + 1, _, false, by omega, by go_num, rfl, HE2, ?_, hB5⟩
                  rw [List.length_append, tzCells_snoc]
                  exact hown
                case measure => omega
              · obtain rfl : ah = true := by rw [← hah]; unfold outK; rw [p8, p9]; rfl
                clear hah
                have HE2 : Hid (bareS (ts.take (j + 1 + 1)) = (acc ++ [⟨tk, tt, ta, te, true⟩], false)) := Lib.hid (by rw [HE.out]; simp)
                clear HE
                go_wp2_with (at_builtin; refine wpList_append_own _ rfl _ _ 32 rfl w.heap.size 34 i0 (.agg #[.int .i64 0, .string ⟨#[]⟩, .int .i64 0, .int .i64 0, .bool false]) 5 48 Tryz.underlying32 hi hz0 hz1 hz2 rfl (by decide) _ _ _ rfl ((hrow.alloc _).alloc _) ⟨wr.heap.size + 1, 0, none⟩ 1 1 (tzCell ⟨tk, tt, ta, te, true⟩) rfl rfl (cell5_two _ _ _ _ _ _ _ _) (by simp [Value.oneCell', tzCell]) (by unfold maxLen; omega) (by omega) (by simp; omega) ?_; intro v' w3 hown hgrow hn3; clear hn3; have hL4 := hrow.lt; have hB4 := (hbx.alloc hbs (.cells #[.int .i64 tk, .string tt, .int .i64 ta, .int .i64 te, .bool true] 34)); have hB5 := (hB4.alloc hB4.size _).grown hgrow (by have := hB4.size; simp; omega) (fun j e => (hL4 j e).1))
                go_roundg (n - (j + 1 + 1))
                case rel =>
                  refine ⟨j + 1 + 1, _, false, by omega, by go_num, rfl, HE2, ?_, hB5⟩
                  rw [List.length_append, tzCells_snoc]
                  exact hown
                case measure => omega
            · obtain rfl : ah = true := by rw [← hah]; unfold outK; rw [p8]; rfl
              clear hah
              have HE2 : Hid (bareS (ts.take (j + 1 + 1)) = (acc ++ [⟨tk, tt, ta, te, true⟩], false)) := Lib.hid (by rw [HE.out]; simp)
              clear HE
              go_wp2_with (at_builtin; refine wpList_append_own _ rfl _ _ 32 rfl w.heap.size 34 i0 (.agg #[.int .i64 0, .string ⟨#[]⟩, .int .i64 0, .int .i64 0, .bool false]) 5 48 Tryz.underlying32 hi hz0 hz1 hz2 rfl (by decide) _ _ _ rfl ((hrow.alloc _).alloc _) ⟨wr.heap.size + 1, 0, none⟩ 1 1 (tzCell ⟨tk, tt, ta, te, true⟩) rfl rfl (cell5_two _ _ _ _ _ _ _ _) (by simp [Value.oneCell', tzCell]) (by unfold maxLen; omega) (by omega) (by simp; omega) ?_; intro v' w3 hown hgrow hn3; clear hn3; have hL4 := hrow.lt; have hB4 := (hbx.alloc hbs (.cells #[.int .i64 tk, .string tt, .int .i64 ta, .int .i64 te, .bool true] 34)); have hB5 := (hB4.alloc hB4.size _).grown hgrow (by have := hB4.size; simp; omega) (fun j e => (hL4 j e).1))
              go_roundg (n - (j + 1 + 1))
              case rel =>
                refine ⟨j + 1 + 1, _, false, by omega, by go_num, rfl, HE2, ?_, hB5⟩
                rw [List.length_append, tzCells_snoc]
                exact hown
              case measure => omega
        · have hst : bareStep (acc, ah) ⟨tk, tt, ta, te, tsp⟩ = (acc, true) := by unfold bareStep outK; simp only [h8, h9]; rfl
          rw [hst] at HB2
          clear hst hr
          go_wp2
          go_roundg (n - (k + 1))
          case rel => exact ⟨k + 1, acc, true, by omega, by go_num, rfl, HB2, hrow, hbx⟩
          case measure => omega
      · have hst : bareStep (acc, ah) ⟨tk, tt, ta, te, tsp⟩ = (acc, true) := by unfold bareStep outK; simp only [h8]; rfl
        rw [hst] at HB2
        clear hst hr
        go_wp2
        go_roundg (n - (k + 1))
        case rel => exact ⟨k + 1, acc, true, by omega, by go_num, rfl, HB2, hrow, hbx⟩
        case measure => omega
    · obtain rfl : k = n := by omega
      have HB3 := Lib.hid (show bareS ts = (acc, ah) by rw [← HB.out, List.take_of_length_le (by rw [HN.out]; exact Nat.le_refl _)])
      go_wp2
      go_ret
      rw [HB3.out]
      exact ⟨⟨_, rfl, hrow⟩, hbx⟩

set_option maxHeartbeats 2000000 in
theorem same_any (ts : List Tz) (n c1 c2 : Nat) (a1 a2 : Option Addr) (w : World) (hn : ts.length = n) (hn2 : n ≤ maxLen)
    (h1 : 0 < n → ∃ b o, a1 = some ⟨b, o, none⟩ ∧ TzAt w b o ts) (h2 : 0 < n → ∃ b o, a2 = some ⟨b, o, none⟩ ∧ TzAt w b o ts) :
    Calls Tryz.prog 16 #[.slice a1 n c1, .slice a2 n c2] w fun e w' => e = .returned (.bool true) ∧ ∃ q, w' = w.drewN q := by
  unfold maxLen at hn2
  have HN := Lib.hid hn
  have H1 := Lib.hid h1
  have H2 := Lib.hid h2
  clear hn h1 h2
  go_enter Tryz.func16, Tryz.ntmps16
  go_wp2
  go_loopw [5] (fun i wx => ∃ k : Nat, k ≤ n ∧ i = .int .i64 k ∧ ∃ q, wx = w.drewN q) (fun i _ => n - (intOf i).toNat)
  case atStart => exact ⟨0, Nat.zero_le _, rfl, 0, rfl⟩
  case round =>
    obtain ⟨k, hk, rfl, q, rfl⟩ := hrel
    by_cases hlt : k < n
    · obtain ⟨t, ht⟩ : ∃ t, ts[k]? = some t := ⟨_, List.getElem?_eq_getElem (by rw [HN.out]; exact hlt)⟩
      obtain ⟨b, o, rfl, hr⟩ := H1.out (by omega)
      obtain ⟨c0, c1, c2, c3, c4⟩ := hr k t ht
      obtain ⟨b2, o2, rfl, hr2⟩ := H2.out (by omega)
      obtain ⟨d0, d1, d2, d3, d4⟩ := hr2 k t ht
      clear hr hr2 ht
      obtain ⟨tk, tt, ta, te, tsp⟩ := t
      simp only at c0 c1 c2 c3 c4 d0 d1 d2 d3 d4
      have j1 : (k : Int) < (n : Int) := by omega
      have j0 : (0 : Int) ≤ (k : Int) := by omega
      go_wp2
      go_big_quiet (fail)
      go_wp2
      refine ⟨⟨k + 1, by omega, by go_num, _, rfl⟩, ?_⟩
      simp [intOf]; omega
    · go_wp2
      go_ret
      exact ⟨rfl, q, rfl⟩

end Go.Proofs.YtenmapahigbbeaaGreat

namespace Go.Proofs.YtenmapahigbbeaaGreat
open Go.RowKit Go.Shelf

theorem tzCells_got {ys : List Tz} {k : Nat} {y : Tz} (h : ys[k]? = some y) (j : Nat) (hj : j < 5) : (tzCells ys)[k * 5 + j]? = (tzCell y)[j]? := by
  induction ys generalizing k with
  | nil => simp at h
  | cons q ys ih =>
    have hc : tzCells (q :: ys) = tzCell q ++ tzCells ys := by simp [tzCells, tzCell]
    cases k with
    | zero =>
      simp only [List.getElem?_cons_zero, Option.some.injEq] at h
      subst h
      rw [hc, List.getElem?_append_left (by simp [tzCell]; omega)]
      simp
    | succ k =>
      simp only [List.getElem?_cons_succ] at h
      rw [hc, List.getElem?_append_right (by simp [tzCell]; omega)]
      have : (k + 1) * 5 + j - (tzCell q).length = k * 5 + j := by simp [tzCell]; omega
      rw [this]
      exact ih h
theorem tzRow_own {W : World} {base n cap : Nat} {a : Option Addr} {ts : List Tz} (h : W.ownsRow base 34 5 (.slice a n cap) n (tzCells ts)) (hn : 0 < n) : ∃ g, a = some ⟨g, 0, none⟩ ∧ base ≤ g ∧ g < W.heap.size ∧ TzRow W g ts := by
  obtain ⟨g, ha, hg, hc⟩ := row_pos hn h
  subst ha
  refine ⟨g, rfl, (h.lt g rfl).1, hg, fun i y hy => ?_⟩
  exact ⟨hc _ _ (tzCells_got hy 0 (by decide)), hc _ _ (tzCells_got hy 1 (by decide)), hc _ _ (tzCells_got hy 2 (by decide)), hc _ _ (tzCells_got hy 3 (by decide)), hc _ _ (tzCells_got hy 4 (by decide))⟩

/-- A token of C: its class, its text. -/
def clsA (t : Tz) : Nat × ByteArray := ((clsR t.k t.tx).1, (clsR t.k t.tx).2.1)
def ctCell (c : Nat × ByteArray) : List Value := [.int .i64 c.1, .string c.2]
def ctCells (cs : List (Nat × ByteArray)) : List Value := cs.flatMap ctCell
theorem ctCells_snoc (cs : List (Nat × ByteArray)) (c : Nat × ByteArray) : ctCells (cs ++ [c]) = ctCells cs ++ ctCell c := by simp [ctCells, ctCell]
/-- The tokens of C of bare tokens; or the first one that is none. -/
def tokR (bs : List Tz) : List (Nat × ByteArray) × Nat × Nat := match bs.findIdx? (fun t => clsN t.k t.tx == 0) with
  | none => (bs.map clsA, 0, 0)
  | some i => ([], i, 40)
theorem clsR_err (k : Int) (s : ByteArray) : (clsN k s = 0 ∧ clsR k s = (0, ⟨#[]⟩, 40)) ∨ (clsN k s ≠ 0 ∧ (clsR k s).2.2 = 0) := by
  unfold clsR
  by_cases h : clsN k s = 0
  · rw [if_pos h]; exact .inl ⟨h, rfl⟩
  · rw [if_neg h]
    refine .inr ⟨h, ?_⟩
    split <;> rfl
theorem tokR_stop {bs : List Tz} {k : Nat} {t : Tz} (h : ∀ j u, j < k → bs[j]? = some u → clsN u.k u.tx ≠ 0) (ht : bs[k]? = some t) (h0 : clsN t.k t.tx = 0) : tokR bs = ([], k, 40) := by
  have : bs.findIdx? (fun t => clsN t.k t.tx == 0) = some k := by
    rw [List.findIdx?_eq_some_iff_getElem]
    obtain ⟨hlt, he⟩ := List.getElem?_eq_some_iff.1 ht
    refine ⟨hlt, by rw [he]; simp [h0], fun j hj => ?_⟩
    have := h j bs[j] hj (List.getElem?_eq_getElem (by omega))
    simpa using this
  unfold tokR
  rw [this]
theorem tokR_all {bs : List Tz} (h : ∀ j u, j < bs.length → bs[j]? = some u → clsN u.k u.tx ≠ 0) : tokR bs = (bs.map clsA, 0, 0) := by
  have : bs.findIdx? (fun t => clsN t.k t.tx == 0) = none := by
    rw [List.findIdx?_eq_none_iff]
    intro x hx
    obtain ⟨j, hj, e⟩ := List.getElem_of_mem hx
    have := h j x hj (by rw [List.getElem?_eq_getElem hj, e])
    simpa using this
  unfold tokR
  rw [this]
theorem infoCt : (Tryz.prog.info? 23).map (fun i => (i.zero, i.size, i.bytes)) = some (some (.agg #[.int .i64 0, .string ⟨#[]⟩]), 2, 24) := by kernel_rfl
theorem cell_two_new (w : World) (a b : Value) (t : TypeId) : ∀ j u, [a, b][j]? = some u → (w.alloc (.cells #[a, b] t)).cell? ((⟨w.heap.size, 0, none⟩ : Addr).add j) = some u := by
  intro j u hj
  match j, hj with
  | 0, hj => simp at hj; subst hj; simp [Addr.add]
  | 1, hj => simp at hj; subst hj; simp [Addr.add]
  | j + 2, hj => simp at hj
theorem cell_two_two (w : World) (o : Obj) (a b : Value) (t : TypeId) : ∀ j u, [a, b][j]? = some u → ((w.alloc o).alloc (.cells #[a, b] t)).cell? ((⟨w.heap.size + 1, 0, none⟩ : Addr).add j) = some u := by
  have h := cell_two_new (w.alloc o) a b t
  rw [World.size_alloc] at h
  exact h
/-- The texts of bare tokens are the tokens'. -/
theorem bareS_tx (ts : List Tz) : ∀ t ∈ (bareS ts).1, ∃ u ∈ ts, t.tx = u.tx := by
  have key : ∀ (l : List Tz) (q : List Tz × Bool), ∀ t ∈ (l.foldl bareStep q).1, t ∈ q.1 ∨ ∃ u ∈ l, t.tx = u.tx := by
    intro l
    induction l with
    | nil => intro q t h; exact .inl h
    | cons x l ih =>
      intro q t h
      rw [List.foldl_cons] at h
      rcases ih _ t h with h1 | ⟨u, hu, e⟩
      · unfold bareStep at h1
        split at h1
        · exact .inl h1
        · rcases List.mem_append.1 h1 with h2 | h2
          · exact .inl h2
          · rw [List.mem_singleton] at h2
            exact .inr ⟨x, List.mem_cons_self, by rw [h2]⟩
      · exact .inr ⟨u, List.mem_cons_of_mem _ hu, e⟩
  intro t ht
  rcases key ts ([], false) t ht with h | h
  · cases h
  · exact h
theorem risi {v : Value} {a b c d : Int} (h : a = b) (h2 : c = d) : Ending.returned (.tuple #[v, .int .i64 a, .int .i64 c]) = .returned (.tuple #[v, .int .i64 b, .int .i64 d]) := by rw [h, h2]

theorem row_base_of {w : World} {b b' n : Nat} {e : TypeId} {size : Nat} {v : Value} {xs : List Value} (hb : b' ≤ b) (h : w.ownsRow b e size v n xs) : w.ownsRow b' e size v n xs := by
  refine ⟨h.1, ?_⟩
  rcases h.2 with h1 | ⟨g, cap, cur, h1, h2, h3⟩
  · exact .inl h1
  · exact .inr ⟨g, cap, cur, h1, Nat.le_trans hb h2, h3⟩
/-- What Tokens answers. -/
def TokRes (w : World) (bs : List Tz) (e : Ending) (w' : World) : Prop :=
  (∃ v, e = .returned (.tuple #[v, .int .i64 ((tokR bs).2.1 : Nat), .int .i64 ((tokR bs).2.2 : Nat)]) ∧ w'.ownsRow w.heap.size 23 2 v (tokR bs).1.length (ctCells (tokR bs).1)) ∧ Below w.heap.size w w'

set_option maxRecDepth 100000 in
set_option maxHeartbeats 4000000 in
theorem Tokens_any (ts : List Tz) (n cap : Nat) (a : Option Addr) (w : World) (hn : ts.length = n) (hn2 : n * 48 ≤ 140737488355328) (ht : ∀ t ∈ ts, t.tx.size ≤ 200000) (hL : LibVar w)
    (hT : 0 < n → ∃ g, a = some ⟨g, 0, none⟩ ∧ g < w.heap.size ∧ TzRow w g ts) :
    Calls Tryz.prog 13 #[.slice a n cap] w (TokRes w (bareS ts).1) := by
  obtain ⟨i0, hi, hz0, hz1, hz2⟩ := info_parts infoCt
  have CB := bare_any ts n cap a w hn hn2 (fun t h => Nat.le_trans (ht t h) (by decide)) hT
  have hbl := bareS_len ts
  have htx : ∀ t ∈ (bareS ts).1, t.tx.size ≤ 200000 := by
    intro t h
    obtain ⟨u, hu, e⟩ := bareS_tx ts t h
    rw [e]
    exact ht u hu
  generalize (bareS ts).1 = bs at *
  obtain ⟨m, hm⟩ : ∃ m, bs.length = m := ⟨_, rfl⟩
  rw [hm] at CB hbl
  rw [hn] at hbl
  have HM := Lib.hid hm
  have HX := Lib.hid htx
  clear hm htx hn ht hT
  go_enter Tryz.func13, Tryz.ntmps13
  go_wp2_with fail
  refine CB.mono ?_
  rintro e w1 ⟨⟨v1, rfl, hrow1⟩, hb1⟩
  obtain ⟨a1, cap1, rfl⟩ := row_shape hrow1
  have HR1 := Lib.hid (fun h => tzRow_own hrow1 h)
  have hs1 := hb1.size
  clear hrow1 CB
  go_wp2
  go_loopg [5, 13] m (fun g v i wx => ∃ k : Nat, k ≤ m ∧ i = .int .i64 k ∧ g = m - k ∧ Hid (∀ j u, j < k → bs[j]? = some u → clsN u.k u.tx ≠ 0) ∧ wx.ownsRow w1.heap.size 23 2 v k (ctCells ((bs.take k).map clsA)) ∧ Below w1.heap.size w1 wx)
  case atStart => exact ⟨0, Nat.zero_le _, rfl, rfl, Lib.hid (fun j u h => by omega), World.ownsRow_nil _ _ _ _, Below.refl _ _⟩
  case round =>
    obtain ⟨k, hk, rfl, rfl, HB, hrow, hbx⟩ := hrel
    by_cases hlt : k < m
    · obtain ⟨t, ht⟩ : ∃ t, bs[k]? = some t := ⟨_, List.getElem?_eq_getElem (by rw [HM.out]; exact hlt)⟩
      obtain ⟨g, rfl, _, hg1, hr⟩ := HR1.out (by omega)
      obtain ⟨c0, c1, c2, c3, c4⟩ := (hr.below hbx hg1) k t ht
      have hX := HX.out t (List.mem_of_getElem? ht)
      have C := fun w' (hb : Below w1.heap.size w1 w') => Class_any t.k t.tx w' hX (libVar_below (hb1.trans (hb.mono hs1)) hL)
      have hbs := hbx.size
      have hb2 := hbx.alloc hbs (.cells #[.int .i64 t.k, .string t.tx, .int .i64 t.a, .int .i64 t.e, .bool t.sp] 34)
      have j1 : (k : Int) < (m : Int) := by omega
      have j0 : (0 : Int) ≤ (k : Int) := by omega
      clear hr
      rcases clsR_err t.k t.tx with ⟨h0, hc⟩ | ⟨h0, hc⟩
      · have HO := Lib.hid (tokR_stop HB.out ht h0)
        simp only [hc] at C
        clear ht hc h0
        go_wp2_with fail
        refine (C _ hb2).mono ?_
        rintro e w2 ⟨rfl, hb3⟩
        go_wp2
        go_ret3
        have hB := hb1.trans ((hb2.trans (hb3.mono hb2.size)).mono hs1)
        refine ⟨⟨_, risi (by rw [HO.out]) (by rw [HO.out]; rfl), ?_⟩, hB.alloc hB.size _⟩
        rw [HO.out]
        exact World.ownsRow_nil _ _ _ _
      · have HN : Hid (∀ j u, j < k + 1 → bs[j]? = some u → clsN u.k u.tx ≠ 0) := Lib.hid (fun j u hj hu => by
          by_cases e : j = k
          · subst e
            rw [ht, Option.some.injEq] at hu
            rw [← hu]; exact h0
          · exact HB.out j u (by omega) hu)
        have HT2 : Hid ((bs.take (k + 1)).map clsA = (bs.take k).map clsA ++ [clsA t]) := Lib.hid (by
          rw [List.take_add_one, ht, List.map_append]; rfl)
        have hcl : clsA t = ((clsR t.k t.tx).1, (clsR t.k t.tx).2.1) := rfl
        generalize clsR t.k t.tx = Rc at *
        obtain ⟨c, x, e0⟩ := Rc
        simp only at C hc hcl
        subst hc
        rw [hcl] at HT2
        have hrow3 := fun (w2 : World) (h : Below (wr.alloc (.cells #[.int .i64 t.k, .string t.tx, .int .i64 t.a, .int .i64 t.e, .bool t.sp] 34)).heap.size (wr.alloc (.cells #[.int .i64 t.k, .string t.tx, .int .i64 t.a, .int .i64 t.e, .bool t.sp] 34)) w2) => (row_below (hrow.alloc (.cells #[.int .i64 t.k, .string t.tx, .int .i64 t.a, .int .i64 t.e, .bool t.sp] 34)) h).alloc (.cells #[.int .i64 c, .string x] 23)
        have hlk : ((bs.take k).map clsA).length = k := by rw [List.length_map, List.length_take, HM.out]; omega
        have hB4 : ∀ w2, Below (wr.alloc (.cells #[.int .i64 t.k, .string t.tx, .int .i64 t.a, .int .i64 t.e, .bool t.sp] 34)).heap.size (wr.alloc (.cells #[.int .i64 t.k, .string t.tx, .int .i64 t.a, .int .i64 t.e, .bool t.sp] 34)) w2 → Below w1.heap.size w1 (w2.alloc (.cells #[.int .i64 c, .string x] 23)) := fun w2 h => by
          have h2 := hb2.trans (h.mono hb2.size)
          exact h2.alloc h2.size _
        clear ht h0 hcl
        go_wp2_with fail
        refine (C _ hb2).mono ?_
        rintro e w2 ⟨rfl, hb3⟩
        have HR4 := Lib.hid (hrow3 w2 hb3)
        have hB5 := hB4 w2 hb3
        have hs5 := hB5.size
        rw [World.size_alloc] at hs5
        clear hrow3 hB4 C hrow
        go_wp2_with (at_builtin; refine wpList_append_own _ rfl _ _ 35 rfl w1.heap.size 23 i0 (.agg #[.int .i64 0, .string ⟨#[]⟩]) 2 24 Tryz.underlying35 hi hz0 hz1 hz2 rfl (by decide) _ _ _ rfl (HR4.out.alloc _) ⟨w2.heap.size + 1, 0, none⟩ 1 1 (ctCell (c, x)) rfl rfl (cell_two_two _ _ _ _ _) (by simp [Value.oneCell', ctCell]) (by unfold maxLen; omega) (by omega) (by simp; omega) ?_; intro v' w3 hown hgrow hn3; clear hn3; have hL4 := HR4.out.lt; have hB6 := (hB5.alloc (by have := hB5.size; exact this) _).grown hgrow (by simp; omega) (fun j e => (hL4 j e).1))
        go_roundg (m - (k + 1))
        case rel =>
          refine ⟨k + 1, by omega, by go_num, rfl, HN, ?_, hB6⟩
          rw [HT2.out, ctCells_snoc]
          exact hown
        case measure => omega
    · obtain rfl : k = m := by omega
      have HO := Lib.hid (tokR_all (bs := bs) (fun j u hj hu => HB.out j u (by rw [← HM.out]; exact hj) hu))
      have HT3 : Hid ((bs.take k).map clsA = bs.map clsA) := Lib.hid (by rw [List.take_of_length_le (by rw [HM.out]; exact Nat.le_refl _)])
      have i1 : ¬ (k : Int) < (k : Int) := by omega
      go_wp2
      go_ret3
      refine ⟨⟨_, risi (by rw [HO.out]; rfl) (by rw [HO.out]; rfl), ?_⟩, hb1.trans (hbx.mono hs1)⟩
      rw [HO.out, ← HT3.out]
      simp only
      rw [List.length_map, List.length_take, HM.out, Nat.min_self]
      exact row_base_of hs1 hrow

end Go.Proofs.YtenmapahigbbeaaGreat

namespace Go.Proofs.YtenmapahigbbeaaGreat
open Go.RowKit Go.Shelf

/-- An operation that only reads, taken ahead of the others; the slot that it writes is told. -/
theorem take_op {P : Program} {md : Region.Mode} {ops : Array Oper} {Q : Exit → Act → World → Prop} {S : World → Prop} {i d : Nat} {oi : Oper} {v : Value} {fuel : Nat} {listed : Array Bool} {tm : Array Value} {df : List Deferred} {w : World} (hi : ops[i]? = some oi) (hd : oi.dst = some d)
    (hs : Region.noSelect ops = true) (hf : Region.free md ops listed i = true) (hr : (Region.ready md ops listed).contains i = true)
    (hQ : ∀ c a w, Q (.panic c) (a.put oi.dst v) w → Q (.panic c) a w) (hy : YieldsIf P ops S oi v { tmps := tm, defers := df }) (hS : S w)
    (h : wpAnyH P md ops Q S fuel (listed.setIfInBounds i true) { tmps := tm.setIfInBounds d v, defers := df } w) : wpAnyH P md ops Q S (fuel + 1) listed { tmps := tm, defers := df } w := by
  refine wpAnyH_take hi hs hf hr hQ hy hS ?_
  rw [hd]
  exact h
theorem pair_drew {w w1 : World} {T : TypeId} {x y : Value} (hb : Below (w.alloc (.cells #[x, y] T)).drew.heap.size (w.alloc (.cells #[x, y] T)).drew w1) : w1.heap[w.heap.size]? = some (.cells #[x, y] T (0, 0)) :=
  (hb.block _ (by show _ < (w.alloc _).heap.size; simp)).trans (World.alloc_heap_new _ _)
theorem row_set2 {W : World} {P a b base n z : Nat} {x y v : Value} {e : TypeId} {xs : List Value} (h : W.ownsRow base e z v n xs) (hv : ∀ j, v.ownBlock = some j → j ≠ P) : ((W.setCell ⟨P, a, none⟩ x).setCell ⟨P, b, none⟩ y).ownsRow base e z v n xs := by
  refine ⟨h.1, ?_⟩
  rcases h.2 with h1 | ⟨g, cap, cur, h1, h2, h3, h4⟩
  · exact .inl h1
  · refine .inr ⟨g, cap, cur, h1, h2, ?_, h4⟩
    have hg : g ≠ P := hv g (by rw [h1]; rfl)
    rw [Below.heap_setCell _ _ _ _ hg, Below.heap_setCell _ _ _ _ hg]
    exact h3
theorem held2 {W W' : World} {g i j : Nat} {u v : Value} (h : W.cell? ⟨g, i, none⟩ = some u ∧ W.cell? ⟨g, j, none⟩ = some v) (hg : g < W.heap.size) (hb : Below W.heap.size W W') : W'.cell? ⟨g, i, none⟩ = some u ∧ W'.cell? ⟨g, j, none⟩ = some v :=
  ⟨(hb.cell (p := ⟨g, i, none⟩) hg).trans h.1, (hb.cell (p := ⟨g, j, none⟩) hg).trans h.2⟩

theorem heldA {W : World} {A B : Addr} {o : Obj} {u v : Value} (h : W.cell? A = some u ∧ W.cell? B = some v) : (W.alloc o).cell? A = some u ∧ (W.alloc o).cell? B = some v :=
  ⟨by rw [World.cell?_alloc_some _ _ _ (by rw [h.1]; rfl)]; exact h.1, by rw [World.cell?_alloc_some _ _ _ (by rw [h.2]; rfl)]; exact h.2⟩
theorem heldB {W : World} {g i j : Nat} {o o' : Obj} {u v : Value} (h : (W.alloc o).cell? ⟨g, i, none⟩ = some u ∧ (W.alloc o).cell? ⟨g, j, none⟩ = some v) (hg : g < W.heap.size) : (W.alloc o').cell? ⟨g, i, none⟩ = some u ∧ (W.alloc o').cell? ⟨g, j, none⟩ = some v := by
  have e : (W.alloc o').heap[g]? = (W.alloc o).heap[g]? := ((below1 W o').block g hg).trans ((below1 W o).block g hg).symm
  exact ⟨(World.cell?_of_block (a := ⟨g, i, none⟩) e).trans h.1, (World.cell?_of_block (a := ⟨g, j, none⟩) e).trans h.2⟩
theorem heldS {W : World} {g i j P a b : Nat} {u v x y : Value} (h : W.cell? ⟨g, i, none⟩ = some u ∧ W.cell? ⟨g, j, none⟩ = some v) (hg : g ≠ P) : ((W.setCell ⟨P, a, none⟩ x).setCell ⟨P, b, none⟩ y).cell? ⟨g, i, none⟩ = some u ∧ ((W.setCell ⟨P, a, none⟩ x).setCell ⟨P, b, none⟩ y).cell? ⟨g, j, none⟩ = some v := by
  have e : ((W.setCell ⟨P, a, none⟩ x).setCell ⟨P, b, none⟩ y).heap[g]? = W.heap[g]? := by
    rw [Below.heap_setCell _ _ _ _ hg, Below.heap_setCell _ _ _ _ hg]
  exact ⟨(World.cell?_of_block (a := ⟨g, i, none⟩) e).trans h.1, (World.cell?_of_block (a := ⟨g, j, none⟩) e).trans h.2⟩

set_option maxRecDepth 100000 in
set_option maxHeartbeats 4000000 in
theorem rCtTokens_any (ts : List Tz) (n cap : Nat) (a : Option Addr) (w : World) (hn : ts.length = n) (hn2 : n * 48 ≤ 140737488355328) (ht : ∀ t ∈ ts, t.tx.size ≤ 1000)
    (hT : 0 < n → ∃ b o, a = some ⟨b, o, none⟩ ∧ b < w.heap.size ∧ TzAt w b o ts) :
    Calls Tryz.prog 14 #[.slice a n cap] w (TokRes w (bareS ts).1) := by
  obtain ⟨i0, hi, hz0, hz1, hz2⟩ := info_parts infoCt
  have CB := rbare_any ts n cap a w hn hn2 hT
  have hbl := bareS_len ts
  have htx : ∀ t ∈ (bareS ts).1, t.tx.size ≤ 1000 := by
    intro t h
    obtain ⟨u, hu, e⟩ := bareS_tx ts t h
    rw [e]
    exact ht u hu
  generalize (bareS ts).1 = bs at *
  obtain ⟨m, hm⟩ : ∃ m, bs.length = m := ⟨_, rfl⟩
  rw [hm] at CB hbl
  rw [hn] at hbl
  have HM := Lib.hid hm
  have HX := Lib.hid htx
  clear hm htx hn ht hT
  go_enter Tryz.func14, Tryz.ntmps14
  go_wp2_with fail
  refine CB.mono ?_
  rintro e w1 ⟨⟨v1, rfl, hrow1⟩, hb1⟩
  obtain ⟨a1, cap1, rfl⟩ := row_shape hrow1
  have HR1 := Lib.hid (fun h => tzRow_own hrow1 h)
  have hs1 := hb1.size
  clear hrow1 CB
  go_wp2
  go_loopg [6, 7] m (fun g v i wx => ∃ k : Nat, k ≤ m ∧ i = .int .i64 k ∧ g = m - k ∧ Hid (∀ j u, j < k → bs[j]? = some u → clsN u.k u.tx ≠ 0) ∧ wx.ownsRow w1.heap.size 23 2 v k (ctCells ((bs.take k).map clsA)) ∧ Below w1.heap.size w1 wx)
  case atStart => exact ⟨0, Nat.zero_le _, rfl, rfl, Lib.hid (fun j u h => by omega), World.ownsRow_nil _ _ _ _, Below.refl _ _⟩
  case round =>
    obtain ⟨k, hk, rfl, rfl, HB, hrow, hbx⟩ := hrel
    by_cases hlt : k < m
    · obtain ⟨t, ht⟩ : ∃ t, bs[k]? = some t := ⟨_, List.getElem?_eq_getElem (by rw [HM.out]; exact hlt)⟩
      obtain ⟨g, rfl, _, hg1, hr⟩ := HR1.out (by omega)
      obtain ⟨c0, c1, c2, c3, c4⟩ := (hr.below hbx hg1) k t ht
      have hX := HX.out t (List.mem_of_getElem? ht)
      have C := fun w' => rClass_any t.k t.tx w' hX
      have hbs := hbx.size
      have hb2 : Below w1.heap.size w1 wr.drew := below_drewN hbx 1
      have hrow2 : wr.drew.ownsRow w1.heap.size 23 2 u6 k (ctCells ((bs.take k).map clsA)) := hrow
      have hgw : g < wr.heap.size := Nat.lt_of_lt_of_le hg1 hbx.size
      have j1 : (k : Int) < (m : Int) := by omega
      have j0 : (0 : Int) ≤ (k : Int) := by omega
      have hE := clsR_err t.k t.tx
      have hcl : clsA t = ((clsR t.k t.tx).1, (clsR t.k t.tx).2.1) := rfl
      have HE := Lib.hid hE
      have HCL := Lib.hid hcl
      have HT := Lib.hid ht
      generalize clsR t.k t.tx = Rc at *
      obtain ⟨c, x, e0⟩ := Rc
      simp only at C
      clear hr ht c2 c3 c4 hE hcl
      go_upto_region 6 with fail
      go_cut [8, 9] from 12 to 39 (fun p e wx => ∃ P : Nat, p = .pointer (some ⟨P, 0, none⟩) ∧ e = .int .i64 e0 ∧ w1.heap.size ≤ P ∧ wx.heap[P]? = some (.cells #[.int .i64 c, .string x] 23 (0, 0)) ∧ wx.ownsRow w1.heap.size 23 2 u6 k (ctCells ((bs.take k).map clsA)) ∧ Below w1.heap.size w1 wx)
      case first =>
        refine wp_region_held_drew (S := (fun W : World => W.cell? ⟨g, k * 5, none⟩ = some (.int .i64 t.k) ∧ W.cell? ⟨g, k * 5 + 1, none⟩ = some (.string t.tx))) (by kernel_rfl) ⟨c0, c1⟩ (fun hS => ?_)
        refine take_op (i := 0) (d := 19) (v := .slice (some ⟨g, 0, none⟩) m cap1) rfl rfl (by kernel_rfl) (by kernel_rfl) (by kernel_rfl) (fun _ _ _ h => h) (Or.inl ⟨by rfl, ?_⟩) hS ?_
        · rintro W ⟨x0, x1⟩
          go_simp
        simp only [List.setIfInBounds_toArray, List.set_cons_zero, List.set_cons_succ]
        refine take_op (i := 1) (d := 20) (v := .int .i64 k) rfl rfl (by kernel_rfl) (by kernel_rfl) (by kernel_rfl) (fun _ _ _ h => h) (Or.inl ⟨by rfl, ?_⟩) hS ?_
        · rintro W ⟨x0, x1⟩
          go_simp
        simp only [List.setIfInBounds_toArray, List.set_cons_zero, List.set_cons_succ]
        refine take_op (i := 2) (d := 21) (v := .pointer (some ⟨g, k * 5, none⟩)) rfl rfl (by kernel_rfl) (by kernel_rfl) (by kernel_rfl) (fun _ _ _ h => h) (Or.inl ⟨by rfl, ?_⟩) hS ?_
        · rintro W ⟨x0, x1⟩
          go_simp
        simp only [List.setIfInBounds_toArray, List.set_cons_zero, List.set_cons_succ]
        refine take_op (i := 3) (d := 22) (v := .pointer (some ⟨g, k * 5, none⟩)) rfl rfl (by kernel_rfl) (by kernel_rfl) (by kernel_rfl) (fun _ _ _ h => h) (Or.inl ⟨by rfl, ?_⟩) hS ?_
        · rintro W ⟨x0, x1⟩
          go_simp
        simp only [List.setIfInBounds_toArray, List.set_cons_zero, List.set_cons_succ]
        refine take_op (i := 4) (d := 23) (v := .int .i64 t.k) rfl rfl (by kernel_rfl) (by kernel_rfl) (by kernel_rfl) (fun _ _ _ h => h) (Or.inl ⟨by rfl, ?_⟩) hS ?_
        · rintro W ⟨x0, x1⟩
          go_simp
        simp only [List.setIfInBounds_toArray, List.set_cons_zero, List.set_cons_succ]
        refine take_op (i := 5) (d := 24) (v := .slice (some ⟨g, 0, none⟩) m cap1) rfl rfl (by kernel_rfl) (by kernel_rfl) (by kernel_rfl) (fun _ _ _ h => h) (Or.inl ⟨by rfl, ?_⟩) hS ?_
        · rintro W ⟨x0, x1⟩
          go_simp
        simp only [List.setIfInBounds_toArray, List.set_cons_zero, List.set_cons_succ]
        refine take_op (i := 6) (d := 25) (v := .int .i64 k) rfl rfl (by kernel_rfl) (by kernel_rfl) (by kernel_rfl) (fun _ _ _ h => h) (Or.inl ⟨by rfl, ?_⟩) hS ?_
        · rintro W ⟨x0, x1⟩
          go_simp
        simp only [List.setIfInBounds_toArray, List.set_cons_zero, List.set_cons_succ]
        refine take_op (i := 7) (d := 26) (v := .pointer (some ⟨g, k * 5, none⟩)) rfl rfl (by kernel_rfl) (by kernel_rfl) (by kernel_rfl) (fun _ _ _ h => h) (Or.inl ⟨by rfl, ?_⟩) hS ?_
        · rintro W ⟨x0, x1⟩
          go_simp
        simp only [List.setIfInBounds_toArray, List.set_cons_zero, List.set_cons_succ]
        refine take_op (i := 8) (d := 27) (v := .pointer (some ⟨g, k * 5 + 1, none⟩)) rfl rfl (by kernel_rfl) (by kernel_rfl) (by kernel_rfl) (fun _ _ _ h => h) (Or.inl ⟨by rfl, ?_⟩) hS ?_
        · rintro W ⟨x0, x1⟩
          go_simp
        simp only [List.setIfInBounds_toArray, List.set_cons_zero, List.set_cons_succ]
        refine take_op (i := 9) (d := 28) (v := .string t.tx) rfl rfl (by kernel_rfl) (by kernel_rfl) (by kernel_rfl) (fun _ _ _ h => h) (Or.inl ⟨by rfl, ?_⟩) hS ?_
        · rintro W ⟨x0, x1⟩
          go_simp
        simp only [List.setIfInBounds_toArray, List.set_cons_zero, List.set_cons_succ]
        refine wpAnyH_ready (rs := [10, 14]) (by kernel_rfl) (by simp) ?_
        refine AllReadyH.cons rfl (fun K hK => ?_) (AllReadyH.cons rfl (fun K hK => ?_) AllReadyH.nil)
        · go_simp
          refine (C _).mono ?_
          rintro e w2 ⟨rfl, hb3⟩
          go_wp2_with fail
          refine hK.out _ _ (held2 hS hgw hb3) (fun hS => ?_)
          clear hK K
          refine take_op (i := 11) (d := 18) (v := .tuple #[.agg #[.int .i64 c, .string x], .int .i64 e0]) rfl rfl (by kernel_rfl) (by kernel_rfl) (by kernel_rfl) (fun _ _ _ h => h) (Or.inl ⟨by rfl, ?_⟩) hS ?_
          · rintro W ⟨x0, x1⟩
            go_simp
          simp only [List.setIfInBounds_toArray, List.set_cons_zero, List.set_cons_succ]
          refine take_op (i := 12) (d := 30) (v := .agg #[.int .i64 c, .string x]) rfl rfl (by kernel_rfl) (by kernel_rfl) (by kernel_rfl) (fun _ _ _ h => h) (Or.inl ⟨by rfl, ?_⟩) hS ?_
          · rintro W ⟨x0, x1⟩
            go_simp
          simp only [List.setIfInBounds_toArray, List.set_cons_zero, List.set_cons_succ]
          refine take_op (i := 13) (d := 31) (v := .int .i64 e0) rfl rfl (by kernel_rfl) (by kernel_rfl) (by kernel_rfl) (fun _ _ _ h => h) (Or.inl ⟨by rfl, ?_⟩) hS ?_
          · rintro W ⟨x0, x1⟩
            go_simp
          simp only [List.setIfInBounds_toArray, List.set_cons_zero, List.set_cons_succ]
          refine wpAnyH_ready (rs := [14]) (by kernel_rfl) (by simp) ?_
          refine AllReadyH.cons rfl (fun K hK => ?_) AllReadyH.nil
          go_simp
          refine hK.out _ _ (heldA hS) (fun hS => ?_)
          clear hK K
          refine wpAnyH_ready (rs := [15]) (by kernel_rfl) (by simp) ?_
          refine AllReadyH.cons rfl (fun K hK => ?_) AllReadyH.nil
          go_simp
          refine hK.out _ _ (heldB hS (Nat.lt_of_lt_of_le hgw hb3.size)) (fun hS => ?_)
          clear hK K
          refine take_op (i := 16) (d := 9) (v := .int .i64 e0) rfl rfl (by kernel_rfl) (by kernel_rfl) (by kernel_rfl) (fun _ _ _ h => h) (Or.inl ⟨by rfl, ?_⟩) hS ?_
          · rintro W ⟨x0, x1⟩
            go_simp
          simp only [List.setIfInBounds_toArray, List.set_cons_zero, List.set_cons_succ]
          refine wpAnyH_done (by kernel_rfl) ?_ _
          go_wp2_with fail
          go_meet
          exact ⟨w2.heap.size, rfl, rfl, Nat.le_trans hbx.size hb3.size, World.alloc_heap_new _ _, (row_below hrow2 hb3).alloc _, (hb2.trans (hb3.mono hb2.size)).alloc (hb2.trans (hb3.mono hb2.size)).size _⟩
        · go_simp
          refine hK.out _ _ (heldA hS) (fun hS => ?_)
          clear hK K
          refine wpAnyH_ready (rs := [10]) (by kernel_rfl) (by simp) ?_
          refine AllReadyH.cons rfl (fun K hK => ?_) AllReadyH.nil
          go_simp
          refine (C _).mono ?_
          rintro e w2 ⟨rfl, hb3⟩
          have hk := pair_drew hb3
          obtain ⟨d0, d1, f0, f1⟩ := pair_cells hk
          go_wp2_with fail
          refine hK.out _ _ (held2 hS (by simp; omega) hb3) (fun hS => ?_)
          clear hK K
          refine take_op (i := 11) (d := 18) (v := .tuple #[.agg #[.int .i64 c, .string x], .int .i64 e0]) rfl rfl (by kernel_rfl) (by kernel_rfl) (by kernel_rfl) (fun _ _ _ h => h) (Or.inl ⟨by rfl, ?_⟩) hS ?_
          · rintro W ⟨x0, x1⟩
            go_simp
          simp only [List.setIfInBounds_toArray, List.set_cons_zero, List.set_cons_succ]
          refine take_op (i := 12) (d := 30) (v := .agg #[.int .i64 c, .string x]) rfl rfl (by kernel_rfl) (by kernel_rfl) (by kernel_rfl) (fun _ _ _ h => h) (Or.inl ⟨by rfl, ?_⟩) hS ?_
          · rintro W ⟨x0, x1⟩
            go_simp
          simp only [List.setIfInBounds_toArray, List.set_cons_zero, List.set_cons_succ]
          refine take_op (i := 13) (d := 31) (v := .int .i64 e0) rfl rfl (by kernel_rfl) (by kernel_rfl) (by kernel_rfl) (fun _ _ _ h => h) (Or.inl ⟨by rfl, ?_⟩) hS ?_
          · rintro W ⟨x0, x1⟩
            go_simp
          simp only [List.setIfInBounds_toArray, List.set_cons_zero, List.set_cons_succ]
          refine wpAnyH_ready (rs := [15]) (by kernel_rfl) (by simp) ?_
          refine AllReadyH.cons rfl (fun K hK => ?_) AllReadyH.nil
          go_simp
          refine hK.out _ _ (heldS hS (by simp; omega)) (fun hS => ?_)
          clear hK K
          refine take_op (i := 16) (d := 9) (v := .int .i64 e0) rfl rfl (by kernel_rfl) (by kernel_rfl) (by kernel_rfl) (fun _ _ _ h => h) (Or.inl ⟨by rfl, ?_⟩) hS ?_
          · rintro W ⟨x0, x1⟩
            go_simp
          simp only [List.setIfInBounds_toArray, List.set_cons_zero, List.set_cons_succ]
          refine wpAnyH_done (by kernel_rfl) ?_ _
          go_wp2_with fail
          go_meet
          have hb5 := below_drewN (hbx.alloc hbx.size (.cells #[.int .i64 0, .string ⟨#[]⟩] 23)) 1
          have hb6 := hb5.trans (hb3.mono hb5.size)
          have hrow5 := row_below (show (wr.alloc (.cells #[.int .i64 0, .string ⟨#[]⟩] 23)).drew.ownsRow w1.heap.size 23 2 u6 k (ctCells ((bs.take k).map clsA)) from hrow.alloc _) hb3
          exact ⟨wr.heap.size, rfl, rfl, hbx.size, pair_set hk _ _, row_set2 hrow5 (fun j hj => by have := (hrow.lt j hj).2; omega), (hb6.setCell hbx.size _).setCell hbx.size _⟩
      case rest =>
        obtain ⟨P, rfl, rfl, hP, hk, hrow3, hbx3⟩ := hcut
        have hbs3 := hbx3.size
        obtain ⟨d0, d1, -, -⟩ := pair_cells hk
        rcases HE.out with ⟨h0, hc⟩ | ⟨h0, hc⟩
        · cases hc
          have HO := Lib.hid (tokR_stop HB.out HT.out h0)
          clear h0
          go_wp2
          go_ret3
          refine ⟨⟨_, risi (by rw [HO.out]) (by rw [HO.out]; rfl), ?_⟩, hb1.trans (hbx3.mono hs1)⟩
          rw [HO.out]
          exact World.ownsRow_nil _ _ _ _
        · simp only at hc
          subst hc
          have HN : Hid (∀ j u, j < k + 1 → bs[j]? = some u → clsN u.k u.tx ≠ 0) := Lib.hid (fun j u hj hu => by
            by_cases e : j = k
            · subst e
              rw [HT.out, Option.some.injEq] at hu
              rw [← hu]; exact h0
            · exact HB.out j u (by omega) hu)
          have HT2 : Hid ((bs.take (k + 1)).map clsA = (bs.take k).map clsA ++ [(c, x)]) := Lib.hid (by
            rw [List.take_add_one, HT.out, List.map_append, ← HCL.out]; rfl)
          clear h0 hk
          go_wp2_with (at_builtin; refine wpList_append_own _ rfl _ _ 35 rfl w1.heap.size 23 i0 (.agg #[.int .i64 0, .string ⟨#[]⟩]) 2 24 Tryz.underlying35 hi hz0 hz1 hz2 rfl (by decide) _ _ _ rfl (hrow3.alloc _) ⟨wc.heap.size, 0, none⟩ 1 1 (ctCell (c, x)) rfl rfl (cell_two_new _ _ _ _) (by simp [Value.oneCell', ctCell]) (by unfold maxLen; omega) (by omega) (by simp; omega) ?_; intro v' w3 hown hgrow hn3; clear hn3; have hL4 := hrow3.lt; have hB6 : Below w1.heap.size w1 w3 := (hbx3.alloc hbs3 (.cells #[.int .i64 c, .string x] 23)).grown hgrow (by simp; omega) (fun j e => (hL4 j e).1))
          go_roundg (m - (k + 1))
          case rel =>
            refine ⟨k + 1, by omega, by go_num, rfl, HN, ?_, hB6⟩
            rw [HT2.out, ctCells_snoc]
            exact hown
          case measure => omega
    · obtain rfl : k = m := by omega
      have HO := Lib.hid (tokR_all (bs := bs) (fun j u hj hu => HB.out j u (by rw [← HM.out]; exact hj) hu))
      have HT3 : Hid ((bs.take k).map clsA = bs.map clsA) := Lib.hid (by rw [List.take_of_length_le (by rw [HM.out]; exact Nat.le_refl _)])
      have i1 : ¬ (k : Int) < (k : Int) := by omega
      go_wp2
      go_ret3
      refine ⟨⟨_, risi (by rw [HO.out]; rfl) (by rw [HO.out]; rfl), ?_⟩, hb1.trans (hbx.mono hs1)⟩
      rw [HO.out, ← HT3.out]
      simp only
      rw [List.length_map, List.length_take, HM.out, Nat.min_self]
      exact row_base_of hs1 hrow

end Go.Proofs.YtenmapahigbbeaaGreat

namespace Go.Proofs.YtenmapahigbbeaaGreat
open Go.RowKit Go.Shelf

theorem bch {a b c : World} (h : Below a.heap.size a b) (h2 : Below b.heap.size b c) : Below a.heap.size a c := h.trans (h2.mono h.size)

/-- Only this row was written to. -/
structure Wrote (a : Option Addr) (T : TypeId) (n : Nat) (W W' : World) : Prop where
  size : W'.heap.size = W.heap.size
  own : ∀ g, a = some ⟨g, 0, none⟩ → ∃ cur, W'.heap[g]? = some (.cells cur T (0, 0)) ∧ n ≤ cur.size
  below : ∀ B, (∀ g, a = some ⟨g, 0, none⟩ → B ≤ g) → Below B W W'

theorem Wrote.set {g j n : Nat} {T : TypeId} {W W' : World} (h : Wrote (some ⟨g, 0, none⟩) T n W W') (u : Value) : Wrote (some ⟨g, 0, none⟩) T n W (W'.setCell ⟨g, j, none⟩ u) where
  size := by rw [← h.size]; simp [World.setCell]
  own := fun g' e => by
    obtain rfl : g = g' := by simpa using e
    obtain ⟨cur, h1, h2⟩ := h.own g rfl
    refine ⟨cur.setIfInBounds j u, ?_, by simpa using h2⟩
    simp [World.setCell, Array.getElem?_modify, h1]
  below := fun B hB => (h.below B hB).setCell (hB g rfl) u
theorem Wrote.cell {g j n : Nat} {T : TypeId} {W W' : World} (h : Wrote (some ⟨g, 0, none⟩) T n W W') (hj : j < n) : ∃ u, W'.cell? ⟨g, j, none⟩ = some u := by
  obtain ⟨cur, h1, h2⟩ := h.own g rfl
  rw [Lib.cell_of_heap h1]
  exact ⟨_, Array.getElem?_eq_getElem (by omega)⟩
theorem Wrote.frozen {g n : Nat} (j : Nat) {T : TypeId} {W W' : World} (h : Wrote (some ⟨g, 0, none⟩) T n W W') : W'.frozen? ⟨g, j, none⟩ = false := by
  obtain ⟨cur, h1, h2⟩ := h.own g rfl
  simp [World.frozen?, h1]

theorem tzCells_get {ys : List Tz} {k : Nat} {y : Tz} (h : ys[k]? = some y) (j : Nat) (hj : j < 5) : (tzCells ys)[k * 5 + j]? = (tzCell y)[j]? := by
  induction ys generalizing k with
  | nil => simp at h
  | cons q ys ih =>
    have hc : tzCells (q :: ys) = tzCell q ++ tzCells ys := by simp [tzCells, tzCell]
    cases k with
    | zero =>
      simp only [List.getElem?_cons_zero, Option.some.injEq] at h
      subst h
      rw [hc, List.getElem?_append_left (by simp [tzCell]; omega)]
      simp
    | succ k =>
      simp only [List.getElem?_cons_succ] at h
      rw [hc, List.getElem?_append_right (by simp [tzCell]; omega)]
      have : (k + 1) * 5 + j - (tzCell q).length = k * 5 + j := by simp [tzCell]; omega
      rw [this]
      exact ih h
theorem tzCells_len (ts : List Tz) : (tzCells ts).length = ts.length * 5 := by
  induction ts with
  | nil => rfl
  | cons t ts ih => simp only [tzCells, List.flatMap_cons, List.length_append, List.length_cons] at ih ⊢; rw [ih]; simp [tzCell]; omega
theorem tzCells_one (ts : List Tz) : ∀ u ∈ tzCells ts, u.oneCell' = true := by
  intro u hu
  unfold tzCells at hu
  rw [List.mem_flatMap] at hu
  obtain ⟨t, _, ht⟩ := hu
  simp only [tzCell, List.mem_cons, List.not_mem_nil, or_false] at ht
  rcases ht with rfl | rfl | rfl | rfl | rfl <;> rfl
theorem tzCells_at {W : World} {b o : Nat} {ts : List Tz} (h : TzAt W b o ts) : ∀ j u, (tzCells ts)[j]? = some u → W.cell? ((⟨b, o, none⟩ : Addr).add j) = some u := by
  intro j u hj
  have hlt := (List.getElem?_eq_some_iff.1 hj).1
  rw [tzCells_len] at hlt
  obtain ⟨t, ht⟩ : ∃ t, ts[j / 5]? = some t := ⟨_, List.getElem?_eq_getElem (by omega)⟩
  obtain ⟨c0, c1, c2, c3, c4⟩ := h _ t ht
  have hj2 : (tzCells ts)[j / 5 * 5 + j % 5]? = (tzCell t)[j % 5]? := tzCells_get ht _ (Nat.mod_lt _ (by decide))
  rw [show j / 5 * 5 + j % 5 = j by omega, hj] at hj2
  have ha : (⟨b, o, none⟩ : Addr).add j = ⟨b, o + j / 5 * 5 + j % 5, none⟩ := by
    unfold Addr.add
    split
    · congr 1; omega
    · congr 1; simp only []; omega
  rw [ha]
  have h5 : j % 5 < 5 := Nat.mod_lt _ (by decide)
  generalize j % 5 = r at *
  match r, h5, hj2 with
  | 0, _, hj2 => cases hj2; exact c0
  | 1, _, hj2 => cases hj2; exact c1
  | 2, _, hj2 => cases hj2; exact c2
  | 3, _, hj2 => cases hj2; exact c3
  | 4, _, hj2 => cases hj2; exact c4

/-- A row of tokens that the call owns. -/
theorem tz_shape {W : World} {base n : Nat} {v : Value} {ts : List Tz} (hn : ts.length = n) (h : W.ownsRow base 34 5 v n (tzCells ts)) : ∃ a cap, v = .slice a n cap ∧ (0 < n → ∃ g, a = some ⟨g, 0, none⟩ ∧ g < W.heap.size ∧ TzRow W g ts) ∧ Wrote a 34 (n * 5) W W ∧ (∀ g, a = some ⟨g, 0, none⟩ → base ≤ g) := by
  subst hn
  rcases h.2 with ⟨rfl, h0⟩ | ⟨g, cap, cur, rfl, hg, hh, hc1, hc2, hc3, hc4⟩
  · exact ⟨none, 0, by rw [h0], fun hp => by omega, ⟨rfl, (fun g e => by cases e), fun _ _ => Below.refl _ _⟩, (fun g e => by cases e)⟩
  · refine ⟨some ⟨g, 0, none⟩, cap, rfl, fun _ => ⟨g, rfl, (Array.getElem?_eq_some_iff.1 hh).1, fun i t ht => ?_⟩, ⟨rfl, fun g' e => ?_, fun _ _ => Below.refl _ _⟩, fun g' e => ?_⟩
    · have hc : ∀ j u, (tzCells ts)[j]? = some u → W.cell? ⟨g, j, none⟩ = some u := fun j u hj => by
        have := h.cells (g := g) rfl j u hj
        rcases j with _ | j <;> simpa [Addr.add] using this
      exact ⟨hc _ _ (tzCells_get ht 0 (by decide)), hc _ _ (tzCells_get ht 1 (by decide)), hc _ _ (tzCells_get ht 2 (by decide)), hc _ _ (tzCells_get ht 3 (by decide)), hc _ _ (tzCells_get ht 4 (by decide))⟩
    · obtain rfl : g = g' := by simpa using e
      exact ⟨cur, hh, by rw [hc3]; exact Nat.mul_le_mul_right 5 hc1⟩
    · obtain rfl : g = g' := by simpa using e
      exact hg

theorem row_zero {W : World} {b n z : Nat} {e : TypeId} {v : Value} {xs : List Value} (h : W.ownsRow b e z v (0 + n) ([] ++ xs)) : W.ownsRow b e z v n xs := by
  rw [Nat.zero_add] at h; exact h

/-- scan.Bare, its row laid open. -/
theorem bare_at {ts bs : List Tz} {n m cap : Nat} {a : Option Addr} {w : World} (hbs : (bareS ts).1 = bs) (hm : bs.length = m) (hn : ts.length = n) (hn2 : n * 48 ≤ 140737488355328) (ht : ∀ t ∈ ts, t.tx.size ≤ 281474976710656)
    (hT : 0 < n → ∃ g, a = some ⟨g, 0, none⟩ ∧ g < w.heap.size ∧ TzRow w g ts) :
    Calls Tryz.prog 26 #[.slice a n cap] w fun e w' => (∃ a' cap', e = .returned (.slice a' m cap') ∧ (0 < m → ∃ g, a' = some ⟨g, 0, none⟩ ∧ g < w'.heap.size ∧ TzRow w' g bs) ∧ Wrote a' 34 (m * 5) w' w' ∧ (∀ g, a' = some ⟨g, 0, none⟩ → w.heap.size ≤ g)) ∧ Below w.heap.size w w' := by
  refine (bare_any ts n cap a w hn hn2 ht hT).mono ?_
  rintro e w1 ⟨⟨v, rfl, hr⟩, hb⟩
  rw [hbs, hm] at hr
  obtain ⟨a', cap', rfl, h1, h2, h3⟩ := tz_shape hm hr
  exact ⟨⟨a', cap', rfl, h1, h2, h3⟩, hb⟩
theorem rbare_at {ts bs : List Tz} {n m cap : Nat} {a : Option Addr} {w : World} (hbs : (bareS ts).1 = bs) (hm : bs.length = m) (hn : ts.length = n) (hn2 : n * 48 ≤ 140737488355328)
    (hT : 0 < n → ∃ b o, a = some ⟨b, o, none⟩ ∧ b < w.heap.size ∧ TzAt w b o ts) :
    Calls Tryz.prog 27 #[.slice a n cap] w fun e w' => (∃ a' cap', e = .returned (.slice a' m cap') ∧ (0 < m → ∃ g, a' = some ⟨g, 0, none⟩ ∧ g < w'.heap.size ∧ TzRow w' g bs)) ∧ Below w.heap.size w w' := by
  refine (rbare_any ts n cap a w hn hn2 hT).mono ?_
  rintro e w1 ⟨⟨v, rfl, hr⟩, hb⟩
  rw [hbs, hm] at hr
  obtain ⟨a', cap', rfl, h1, _, _⟩ := tz_shape hm hr
  exact ⟨⟨a', cap', rfl, h1⟩, hb⟩

end Go.Proofs.YtenmapahigbbeaaGreat

namespace Go.Proofs.YtenmapahigbbeaaGreat
open Go.RowKit Go.Shelf

theorem ctCells_get {ys : List (Nat × ByteArray)} {k : Nat} {y : Nat × ByteArray} (h : ys[k]? = some y) (j : Nat) (hj : j < 2) : (ctCells ys)[k * 2 + j]? = (ctCell y)[j]? := by
  induction ys generalizing k with
  | nil => simp at h
  | cons q ys ih =>
    have hc : ctCells (q :: ys) = ctCell q ++ ctCells ys := by simp [ctCells]
    cases k with
    | zero =>
      simp only [List.getElem?_cons_zero, Option.some.injEq] at h
      subst h
      rw [hc, List.getElem?_append_left (by simp [ctCell]; omega)]
      simp
    | succ k =>
      simp only [List.getElem?_cons_succ] at h
      rw [hc, List.getElem?_append_right (by simp [ctCell]; omega)]
      have : (k + 1) * 2 + j - (ctCell q).length = k * 2 + j := by simp [ctCell]; omega
      rw [this]
      exact ih h
/-- Where a row of tokens of C lies, and what is there. -/
def CtRow (W : World) (a : Option Addr) (cs : List (Nat × ByteArray)) : Prop := 0 < cs.length → ∃ g, a = some ⟨g, 0, none⟩ ∧ g < W.heap.size ∧ ∀ i c, cs[i]? = some c → W.cell? ⟨g, i * 2, none⟩ = some (.int .i64 c.1) ∧ W.cell? ⟨g, i * 2 + 1, none⟩ = some (.string c.2)
theorem CtRow.below {B : Nat} {W W' : World} {a : Option Addr} {cs : List (Nat × ByteArray)} (h : CtRow W a cs) (hb : Below B W W') (hB : W.heap.size ≤ B) : CtRow W' a cs := fun hp => by
  obtain ⟨g, e, hg, hc⟩ := h hp
  refine ⟨g, e, Nat.lt_of_lt_of_le hg hb.size, fun i c hi => ?_⟩
  obtain ⟨h1, h2⟩ := hc i c hi
  exact ⟨(hb.cell (p := ⟨g, i * 2, none⟩) (show g < B by omega)).trans h1, (hb.cell (p := ⟨g, i * 2 + 1, none⟩) (show g < B by omega)).trans h2⟩
theorem ct_shape {W : World} {base n : Nat} {v : Value} {cs : List (Nat × ByteArray)} (hn : cs.length = n) (h : W.ownsRow base 23 2 v n (ctCells cs)) : ∃ a cap, v = .slice a n cap ∧ n ≤ maxLen ∧ CtRow W a cs ∧ Wrote a 23 (n * 2) W W ∧ (∀ g, a = some ⟨g, 0, none⟩ → base ≤ g) ∧ (0 < n → ∃ g, a = some ⟨g, 0, none⟩) := by
  subst hn
  rcases h.2 with ⟨rfl, h0⟩ | ⟨g, cap, cur, rfl, hg, hh, hc1, hc2, hc3, hc4⟩
  · exact ⟨none, 0, by rw [h0], by rw [h0]; exact Nat.zero_le _, fun hp => by omega, ⟨rfl, (fun g e => by cases e), fun _ _ => Below.refl _ _⟩, (fun g e => by cases e), fun hp => by omega⟩
  · refine ⟨some ⟨g, 0, none⟩, cap, rfl, Nat.le_trans hc1 hc2, fun _ => ⟨g, rfl, (Array.getElem?_eq_some_iff.1 hh).1, fun i c hi => ?_⟩, ⟨rfl, fun g' e => ?_, fun _ _ => Below.refl _ _⟩, fun g' e => ?_, fun _ => ⟨g, rfl⟩⟩
    · have hc : ∀ j u, (ctCells cs)[j]? = some u → W.cell? ⟨g, j, none⟩ = some u := fun j u hj => by
        have := h.cells (g := g) rfl j u hj
        rcases j with _ | j <;> simpa [Addr.add] using this
      exact ⟨hc _ _ (ctCells_get hi 0 (by decide)), hc _ _ (ctCells_get hi 1 (by decide))⟩
    · obtain rfl : g = g' := by simpa using e
      exact ⟨cur, hh, by rw [hc3]; exact Nat.mul_le_mul_right 2 hc1⟩
    · obtain rfl : g = g' := by simpa using e
      exact hg

set_option maxHeartbeats 2000000 in
theorem rSame_ct (cs : List (Nat × ByteArray)) (m : Nat) (hm : cs.length = m) (hmm : m ≤ maxLen) (a b : Option Addr) (ca cb : Nat) (w : World) (ha : CtRow w a cs) (hb : CtRow w b cs) :
    Calls Tryz.prog 15 #[.slice a m ca, .slice b m cb] w fun e w' => e = .returned (.bool true) ∧ Below w.heap.size w w' := by
  unfold maxLen at hmm
  have HA := Lib.hid ha
  have HB := Lib.hid hb
  have HN := Lib.hid hm
  clear ha hb hm
  go_enter Tryz.func15, Tryz.ntmps15
  go_wp2
  go_loopw [5] (fun i wr => ∃ k : Nat, k ≤ m ∧ i = .int .i64 k ∧ Below w.heap.size w wr) (fun i _ => m - (intOf i).toNat)
  case atStart => exact ⟨0, Nat.zero_le _, rfl, Below.refl _ _⟩
  case round =>
    obtain ⟨k, hk, rfl, hbx⟩ := hrel
    by_cases hlt : k < m
    · obtain ⟨x, hx⟩ : ∃ x, cs[k]? = some x := ⟨_, List.getElem?_eq_getElem (by rw [HN.out]; exact hlt)⟩
      obtain ⟨g1, rfl, _, h1⟩ := (HA.out.below hbx (Nat.le_refl _)) (by rw [HN.out]; omega)
      obtain ⟨g2, rfl, _, h2⟩ := (HB.out.below hbx (Nat.le_refl _)) (by rw [HN.out]; omega)
      obtain ⟨c0, c1⟩ := h1 k x hx
      obtain ⟨d0, d1⟩ := h2 k x hx
      obtain ⟨x1, x2⟩ := x
      simp only at c0 c1 d0 d1
      have i1 : (k : Int) < (m : Int) := by omega
      have i2 : (0 : Int) ≤ (k : Int) := by omega
      clear h1 h2 hx
      go_wp2
      go_big_quiet (fail)
      go_wp2
      refine ⟨⟨k + 1, by omega, by go_num, below_drewN hbx _⟩, ?_⟩
      simp [intOf]; omega
    · have i1 : ¬ (k : Int) < (m : Int) := by omega
      go_wp2
      go_ret
      exact ⟨rfl, hbx⟩

end Go.Proofs.YtenmapahigbbeaaGreat

namespace Go.Proofs.YtenmapahigbbeaaGreat
open Go.RowKit Go.Shelf

set_option maxRecDepth 100000 in
set_option maxHeartbeats 8000000 in
theorem ctoks_some (ts : List Tz) (n cap : Nat) (ad : Addr) (w : World) (hn : ts.length = n) (hn2 : n * 48 ≤ 140737488355328) (hL : LibVar w)
    (hT : 0 < n → ∃ b o, ad = ⟨b, o, none⟩ ∧ b < w.heap.size ∧ TzAt w b o ts) :
    Calls Tryz.prog 4 #[.slice (some ad) n cap] w fun e w' => e = .returned (.bool true) ∧ Below w.heap.size w w' := by
  obtain ⟨i0, hi, hz0, hz1, hz2⟩ := info_parts infoTz
  have hlen : (tzCells ts).length = n * 5 := by rw [tzCells_len, hn]
  have hone := Lib.hid (tzCells_one ts)
  have hnews : ∀ o : Obj, ∀ j u, (tzCells ts)[j]? = some u → (w.alloc o).cell? (ad.add j) = some u := by
    intro o j u hj
    have hlt := (List.getElem?_eq_some_iff.1 hj).1
    obtain ⟨b, q, rfl, hb, hr⟩ := hT (by omega)
    exact tzCells_at (hr.below (below1 w o) hb) j u hj
  have HNW := Lib.hid hnews
  have HLN := Lib.hid hlen
  have HN := Lib.hid hn
  have HT := Lib.hid hT
  clear hn hT hnews hlen
  go_enter Tryz.func4, Tryz.ntmps4
  go_wp2
  go_loop [3] (fun i => ∃ k : Nat, k ≤ n ∧ i = .int .i64 k ∧ Hid (∀ t ∈ ts.take k, t.tx.size ≤ 1000)) (fun i => n - (intOf i).toNat)
  case atStart => exact ⟨0, Nat.zero_le _, rfl, Lib.hid (fun t h => by cases h)⟩
  case round =>
    obtain ⟨k, hk, rfl, HX⟩ := hrel
    by_cases hlt : k < n
    · obtain ⟨t, ht⟩ : ∃ t, ts[k]? = some t := ⟨_, List.getElem?_eq_getElem (by rw [HN.out]; exact hlt)⟩
      obtain ⟨b, o, rfl, _, hr⟩ := HT.out (by omega)
      obtain ⟨-, c1, -, -, -⟩ := hr k t ht
      have j1 : (k : Int) < (n : Int) := by omega
      have j0 : (0 : Int) ≤ (k : Int) := by omega
      by_cases hx : 1000 < t.tx.size
      · have j2 : (1000 : Int) < (t.tx.size : Int) := by omega
        clear hr ht
        go_wp2
        go_ret
        exact ⟨rfl, Below.refl _ _⟩
      · have j2 : ¬ (1000 : Int) < (t.tx.size : Int) := by omega
        have HX2 : Hid (∀ t ∈ ts.take (k + 1), t.tx.size ≤ 1000) := Lib.hid (fun u hu => by
          rw [List.take_add_one, ht] at hu
          rcases List.mem_append.1 hu with h | h
          · exact HX.out u h
          · obtain rfl : u = t := by simpa using h
            omega)
        clear hr ht
        go_wp2
        go_round
        case rel => exact ⟨k + 1, hlt, by go_num, HX2⟩
        case measure => simp [intOf]; omega
    · obtain rfl : k = n := by omega
      have j1 : ¬ (k : Int) < (k : Int) := by omega
      have HX3 : Hid (∀ t ∈ ts, t.tx.size ≤ 1000) := Lib.hid (fun u hu => HX.out u (by rw [List.take_of_length_le (by rw [HN.out]; exact Nat.le_refl _)]; exact hu))
      clear HX
      go_wp2_with (first
        | (at_builtin; refine wpList_append_own _ rfl _ _ 32 rfl w.heap.size 34 i0 (.agg #[.int .i64 0, .string ⟨#[]⟩, .int .i64 0, .int .i64 0, .bool false]) 5 48 Tryz.underlying32 hi hz0 hz1 hz2 rfl (by decide) _ _ _ rfl (World.ownsRow_lit w #[] 0 (Nat.le_refl _) (Nat.zero_le _) rfl) ad k cap (tzCells ts) rfl HLN.out (HNW.out _) hone.out (by unfold maxLen; omega) (by omega) (by simp) ?_; intro v' w1 hown hgrow hn3; clear hn3; have hb1 := ((Below.refl w.heap.size w).alloc (Nat.le_refl _) (.cells #[] 34)).grown hgrow (by simp) (fun j e => ((World.ownsRow_lit (base := w.heap.size) (e := 34) (size := 5) w #[] 0 (Nat.le_refl _) (Nat.zero_le _) rfl).lt j e).1); obtain ⟨a1, cap1, rfl, hs1, hw1, hg1⟩ := tz_shape HN.out (row_zero hown); clear hown hgrow hw1 hg1)
        | fail)
      have HS1 := Lib.hid hs1
      clear hs1
      refine (Tokens_any ts k cap1 a1 w1 HN.out hn2 (fun t h => Nat.le_trans (HX3.out t h) (by decide)) (libVar_below hb1 hL) HS1.out).mono ?_
      rintro e w2 ⟨⟨v2, rfl, hr2⟩, hb2⟩
      have hc2 := bch hb1 hb2
      obtain ⟨R, hR⟩ : ∃ R, tokR (bareS ts).1 = R := ⟨_, rfl⟩
      obtain ⟨cs, q1, q2⟩ := R
      rw [hR] at hr2
      simp only at hr2
      obtain ⟨m, hm⟩ : ∃ m, cs.length = m := ⟨_, rfl⟩
      rw [hm] at hr2
      obtain ⟨a2, cap2, rfl, hmm, hs2, hw2, hg2, hp2⟩ := ct_shape hm hr2
      go_wp2_with fail
      refine (rCtTokens_any ts k cap (some ad) w2 HN.out hn2 HX3.out (fun h => ?_)).mono ?_
      · obtain ⟨b, o, rfl, hb, hr⟩ := HT.out h
        exact ⟨b, o, rfl, Nat.lt_of_lt_of_le hb hc2.size, hr.below hc2 hb⟩
      rintro e w3 ⟨⟨v3, rfl, hr3⟩, hb3⟩
      have hc3 := bch hc2 hb3
      rw [hR] at hr3
      simp only [hR] at hr3 ⊢
      rw [hm] at hr3
      obtain ⟨a3, cap3, rfl, -, hs3, -, -, -⟩ := ct_shape hm hr3
      have CS := rSame_ct cs m hm hmm a2 a3 cap2 cap3 w3 (hs2.below hb3 (Nat.le_refl _)) hs3
      have x1 : ((q1 : Int) != (q1 : Int)) = false := by simp
      have x2 : ((q2 : Int) != (q2 : Int)) = false := by simp
      go_wp2_with (go_at_call 15; refine CS.mono ?_; rintro e w4 ⟨rfl, hb4⟩)
      have hb24 := bch hb3 hb4
      have hc4 := bch hc3 hb4
      have hW4 : Wrote a2 23 (m * 2) w4 w4 := ⟨rfl, fun g e => by
        obtain ⟨cur, h1, h2⟩ := hw2.own g e
        exact ⟨cur, (hb24.block g (Array.getElem?_eq_some_iff.1 h1).1).trans h1, h2⟩, fun _ _ => Below.refl _ _⟩
      have HG2 := Lib.hid hg2
      have HP2 := Lib.hid hp2
      clear hs2 hs3 CS hr2 hr3 hg2 hp2 hw2 hR hm
      unfold maxLen at hmm
      go_loopw [11] (fun i wx => ∃ j : Nat, j ≤ m ∧ i = .int .i64 j ∧ Wrote a2 23 (m * 2) w4 wx) (fun i _ => m - (intOf i).toNat)
      case atStart => exact ⟨0, Nat.zero_le _, rfl, hW4⟩
      case round =>
        obtain ⟨j, hj, rfl, hW⟩ := hrel
        by_cases hlt2 : j < m
        · obtain ⟨g, rfl⟩ := HP2.out (by omega)
          obtain ⟨u0, d0⟩ := hW.cell (j := j * 2) (by omega)
          obtain ⟨u1, d1⟩ := hW.cell (j := j * 2 + 1) (by omega)
          have f0 := hW.frozen (j * 2)
          have f1 := hW.frozen (j * 2 + 1)
          have j2 : (j : Int) < (m : Int) := by omega
          have j0 : (0 : Int) ≤ (j : Int) := by omega
          go_wp2
          refine ⟨⟨j + 1, by omega, by go_num, (hW.set _).set _⟩, ?_⟩
          simp [intOf]; omega
        · have j2 : ¬ (j : Int) < (m : Int) := by omega
          have hbx : Below w1.heap.size w4 wr := hW.below w1.heap.size HG2.out
          have hc5 : Below w.heap.size w wr := hc4.trans (hbx.mono hb1.size)
          have hd5 : Below w1.heap.size w1 wr := (bch hb2 hb24).trans hbx
          go_wp2_with fail
          refine (same_any ts k cap1 cap a1 (some ad) wr HN.out (by unfold maxLen; omega) (fun h => ?_) (fun h => ?_)).mono ?_
          · obtain ⟨g, rfl, hg, hr⟩ := HS1.out h
            exact ⟨g, 0, rfl, (hr.below hd5 hg).at⟩
          · obtain ⟨b, o, rfl, hb, hr⟩ := HT.out h
            exact ⟨b, o, rfl, hr.below hc5 hb⟩
          rintro e w5 ⟨rfl, q5, rfl⟩
          go_wp2
          go_ret
          exact ⟨rfl, below_drewN hc5 q5⟩

set_option maxRecDepth 100000 in
set_option maxHeartbeats 4000000 in
theorem ctoks_nil (w : World) (hL : LibVar w) :
    Calls Tryz.prog 4 #[.slice none 0 0] w fun e w' => e = .returned (.bool true) ∧ Below w.heap.size w w' := by
  have hres : tokR (bareS []).1 = ([], 0, 0) := rfl
  have C1 := fun (a : Option Addr) (cap : Nat) (w' : World) (h : LibVar w') => Tokens_any [] 0 cap a w' rfl (by decide) (fun t h => by cases h) h (fun h => absurd h (by decide))
  have C2 := fun (a : Option Addr) (cap : Nat) (w' : World) => rCtTokens_any [] 0 cap a w' rfl (by decide) (fun t h => by cases h) (fun h => absurd h (by decide))
  have C3 := fun (a1 a2 : Option Addr) (c1 c2 : Nat) (w' : World) => rSame_ct [] 0 rfl (Nat.zero_le _) a1 a2 c1 c2 w' (fun h => absurd h (by decide)) (fun h => absurd h (by decide))
  have C4 := fun (a1 a2 : Option Addr) (c1 c2 : Nat) (w' : World) => same_any [] 0 c1 c2 a1 a2 w' rfl (Nat.zero_le _) (fun h => absurd h (by decide)) (fun h => absurd h (by decide))
  unfold TokRes at C1 C2
  simp only [hres] at C1 C2
  have HC := Lib.hid (show _ ∧ _ ∧ _ ∧ _ from ⟨C1, C2, C3, C4⟩)
  clear C1 C2 C3 C4 hres
  have hb1 := below1 w (.cells #[] 34)
  go_enter Tryz.func4, Tryz.ntmps4
  go_wp2
  go_loop [3] (fun i => i = .int .i64 0) (fun _ => 0)
  case atStart => exact rfl
  case round =>
    obtain rfl := hrel
    go_wp2_with fail
    refine (HC.out.1 _ _ _ (libVar_below hb1 hL)).mono ?_
    rintro e w2 ⟨⟨v2, rfl, hr2⟩, hb2⟩
    obtain ⟨a2, cap2, rfl⟩ := row_shape hr2
    have hc2 := bch hb1 hb2
    go_wp2_with fail
    refine (HC.out.2.1 _ _ _).mono ?_
    rintro e w3 ⟨⟨v3, rfl, hr3⟩, hb3⟩
    obtain ⟨a3, cap3, rfl⟩ := row_shape hr3
    have hc3 := bch hc2 hb3
    clear hr2 hr3
    go_wp2_with fail
    refine (HC.out.2.2.1 _ _ _ _ _).mono ?_
    rintro e w4 ⟨rfl, hb4⟩
    have hc4 := bch hc3 hb4
    go_wp2
    go_loopw [11] (fun i wx => i = .int .i64 0 ∧ wx = w4) (fun i _ => 0)
    case atStart => exact ⟨rfl, rfl⟩
    case round =>
      obtain ⟨rfl, rfl⟩ := hrel
      go_wp2_with fail
      refine (HC.out.2.2.2 _ _ _ _ _).mono ?_
      rintro e w5 ⟨rfl, q5, rfl⟩
      go_wp2
      go_ret
      exact ⟨rfl, below_drewN hc4 q5⟩

end Go.Proofs.YtenmapahigbbeaaGreat

namespace Go.Proofs.YtenmapahigbbeaaGreat
open Go.ChangeShapes Go.WideShapes Go.ChangeAt Go.RowKit Go.Deep

theorem weights_all {H : Type} {P : Program} {e : TypeId} {d : DataW H} {l : List (DataW H)} (h : d ∈ l) : ∀ m ∈ d.weights P e, m ∈ DataW.weightsAll P e l := by
  induction l with
  | nil => cases h
  | cons x r ih =>
    intro m hm
    simp only [DataW.weightsAll, List.mem_append]
    cases List.mem_cons.1 h with
    | inl e => subst e; exact .inl hm
    | inr e => exact .inr (ih e m hm)

section
variable {H : Type} {enc : TypeId × Value → H} {w : World} {base : Nat} {spare : Nat → Bool} {held : Bool}
set_option maxRecDepth 100000 in
/-- One token's cells. -/
theorem tok_cells {n : Nat} {cs : List Value} {x : DataW H × List MemPlace} (hl : cs.length = 5) (h : DataW.trod enc Tryz.prog w base spare held n 34 cs = some x) : ∃ t : Tz, cs = tzCell t ∧ t.tx.size ∈ x.1.weights Tryz.prog 34 := by
  obtain ⟨ys, m, _, rfl, _, hlen, hf⟩ := DataW.trod_struct Tryz.underlying34 h
  match cs, hl with
  | [c0, c1, c2, c3, c4], _ =>
    match ys, hlen with
    | [y0, y1, y2, y3, y4], _ =>
      have g0 : DataW.trod enc Tryz.prog w base spare held m 3 (([c0, c1, c2, c3, c4].drop 0).take (Tryz.prog.cellsOf 3)) = some y0 := hf 0 _ rfl
      rw [show Tryz.prog.cellsOf 3 = 1 by kernel_rfl] at g0
      have g1 : DataW.trod enc Tryz.prog w base spare held m 9 (([c0, c1, c2, c3, c4].drop 1).take (Tryz.prog.cellsOf 9)) = some y1 := hf 1 _ rfl
      rw [show Tryz.prog.cellsOf 9 = 1 by kernel_rfl] at g1
      have g2 : DataW.trod enc Tryz.prog w base spare held m 3 (([c0, c1, c2, c3, c4].drop 2).take (Tryz.prog.cellsOf 3)) = some y2 := hf 2 _ rfl
      rw [show Tryz.prog.cellsOf 3 = 1 by kernel_rfl] at g2
      have g3 : DataW.trod enc Tryz.prog w base spare held m 3 (([c0, c1, c2, c3, c4].drop 3).take (Tryz.prog.cellsOf 3)) = some y3 := hf 3 _ rfl
      rw [show Tryz.prog.cellsOf 3 = 1 by kernel_rfl] at g3
      have g4 : DataW.trod enc Tryz.prog w base spare held m 4 (([c0, c1, c2, c3, c4].drop 4).take (Tryz.prog.cellsOf 4)) = some y4 := hf 4 _ rfl
      rw [show Tryz.prog.cellsOf 4 = 1 by kernel_rfl] at g4
      simp only [List.drop_succ_cons, List.drop_zero, List.take_succ_cons, List.take_zero] at g0 g1 g2 g3 g4
      obtain ⟨k, e0, _, _⟩ := DataW.trod_int Tryz.underlying3 g0
      obtain ⟨tx, e1, rfl, _⟩ := DataW.trod_string Tryz.underlying9 g1
      obtain ⟨a, e2, _, _⟩ := DataW.trod_int Tryz.underlying3 g2
      obtain ⟨e, e3, _, _⟩ := DataW.trod_int Tryz.underlying3 g3
      obtain ⟨sp, e4, _⟩ := DataW.trod_bool Tryz.underlying4 g4
      simp only [List.cons.injEq, and_true] at e0 e1 e2 e3 e4
      subst e0 e1 e2 e3 e4
      refine ⟨⟨k, tx, a, e, sp⟩, rfl, ?_⟩
      simp only [DataW.weights, Tryz.underlying34, DataW.weightsEach, List.map_cons, List.map_nil, List.mem_append]
      refine .inr (.inl ?_)
      rw [← size_list]; exact List.mem_singleton.2 rfl

/-- The list of tokens that came in. -/
theorem toks_came {fuel : Nat} {v : Value} {x : DataW H × List MemPlace} (h : DataW.trod enc Tryz.prog w base (fun _ => true) held fuel 32 [v] = some x) (hb : ∀ m ∈ x.1.weights Tryz.prog 32, m ≤ reachBytes) :
    v = .slice none 0 0 ∨ ∃ (ad : Addr) (n cap : Nat) (ts : List Tz), v = .slice (some ad) n cap ∧ ts.length = n ∧ n * 48 ≤ reachBytes ∧ (∀ t ∈ ts, t.tx.size ≤ reachBytes) ∧ (0 < n → ∃ b o, ad = ⟨b, o, none⟩ ∧ TzAt w b o ts) := by
  rcases open_slice Tryz.underlying32 h with ⟨hcs, _⟩ | ⟨a, len, cap, m, k, D, Pl, hcs, hba, hl, hm, hmm, hx, hi⟩
  · exact .inl (by simpa using hcs)
  · right
    simp only [if_true] at hmm
    have hC : Tryz.prog.cellsOf 34 = 5 := by kernel_rfl
    rw [hC] at hi
    have hB : Tryz.prog.bytesOf 34 = 48 := by kernel_rfl
    rw [hx] at hb
    simp only [DataW.weights, Tryz.underlying32, hB, List.mem_cons, List.mem_append] at hb
    have hlen : len * 48 ≤ reachBytes := by
      have := hb _ (.inl rfl)
      rw [List.length_map, List.length_range] at this
      exact Nat.le_trans (Nat.mul_le_mul_right 48 (Nat.le_add_right _ _)) this
    have hel : ∀ i, i < len → ∃ t : Tz, (∀ j, j < 5 → w.cell? (a.add (i * 5 + j)) = (tzCell t)[j]?) ∧ t.tx.size ≤ reachBytes := by
      intro i hil
      obtain ⟨cs', hc, ht⟩ := hi i (by omega)
      obtain ⟨_, hcl, hat⟩ := World.cells?_some hc
      obtain ⟨t, rfl, htb⟩ := tok_cells hcl ht
      refine ⟨t, fun j hj => ?_, ?_⟩
      · rw [← hat j hj, Addr.add_add]
      · have : D i ∈ (List.range len).map D := List.mem_map.2 ⟨i, List.mem_range.2 hil, rfl⟩
        exact hb _ (.inr (.inl (weights_all this _ htb)))
    have hT : ∀ l, l ≤ len → ∃ ts : List Tz, ts.length = l ∧ ∀ i t, ts[i]? = some t → (∀ j, j < 5 → w.cell? (a.add (i * 5 + j)) = (tzCell t)[j]?) ∧ t.tx.size ≤ reachBytes := by
      intro l
      induction l with
      | zero => intro _; exact ⟨[], rfl, fun i t h => by simp at h⟩
      | succ l ih =>
        intro hle
        obtain ⟨ts, h1, h2⟩ := ih (by omega)
        obtain ⟨t, h3⟩ := hel l (by omega)
        refine ⟨ts ++ [t], by simp [h1], fun i u hu => ?_⟩
        by_cases hil : i < l
        · rw [List.getElem?_append_left (by omega)] at hu; exact h2 i u hu
        · have hlt := (List.getElem?_eq_some_iff.1 hu).1
          simp only [List.length_append, List.length_singleton] at hlt
          obtain rfl : i = l := by omega
          rw [List.getElem?_append_right (by omega), h1, Nat.sub_self] at hu
          simp only [List.getElem?_cons_zero, Option.some.injEq] at hu
          subst hu; exact h3
    obtain ⟨ts, h1, h2⟩ := hT len (Nat.le_refl _)
    refine ⟨a, len, cap, ts, by simpa using hcs, h1, hlen, fun t ht => ?_, fun hp => ?_⟩
    · obtain ⟨i, hi⟩ := List.getElem?_of_mem ht
      exact (h2 i t hi).2
    · obtain ⟨b, o, spot⟩ := a
      obtain ⟨t0, ht0⟩ : ∃ t, ts[0]? = some t := ⟨_, List.getElem?_eq_getElem (by omega)⟩
      have h0 := (h2 0 t0 ht0).1 0 (by decide)
      have hspot : spot = none := by simpa [Addr.add] using World.cell?_spot (a := (⟨b, o, spot⟩ : Addr).add (0 * 5 + 0)) h0
      subst hspot
      refine ⟨b, o, rfl, fun i t ht => ?_⟩
      have hc := (h2 i t ht).1
      have ha : ∀ j, (⟨b, o, none⟩ : Addr).add (i * 5 + j) = ⟨b, o + i * 5 + j, none⟩ := fun j => by rw [Addr.add_lit, Nat.add_assoc]
      have c0 := hc 0 (by decide)
      have c1 := hc 1 (by decide)
      have c2 := hc 2 (by decide)
      have c3 := hc 3 (by decide)
      have c4 := hc 4 (by decide)
      rw [ha] at c0 c1 c2 c3 c4
      exact ⟨c0, c1, c2, c3, c4⟩
end

end Go.Proofs.YtenmapahigbbeaaGreat
