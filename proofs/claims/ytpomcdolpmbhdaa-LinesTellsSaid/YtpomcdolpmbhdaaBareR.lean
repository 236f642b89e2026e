/- regletref02.Bare, regletref02.Same. -/
import Derived.Test.YtpomcdolpmbhdaaBare
namespace Go.Proofs.Ytpomcdolpmbhdaa
open Go.RowKit Go.Shelf

def TzAt (W : World) (b o : Nat) (ts : List Tz) : Prop := ∀ i t, ts[i]? = some t → W.cell? ⟨b, o + i * 5, none⟩ = some (.int .i64 t.k) ∧ W.cell? ⟨b, o + i * 5 + 1, none⟩ = some (.string t.tx) ∧ W.cell? ⟨b, o + i * 5 + 2, none⟩ = some (.int .i64 t.a) ∧ W.cell? ⟨b, o + i * 5 + 3, none⟩ = some (.int .i64 t.e) ∧ W.cell? ⟨b, o + i * 5 + 4, none⟩ = some (.bool t.sp)
theorem TzAt.below {B b o : Nat} {W W' : World} {ys : List Tz} (h : TzAt W b o ys) (hb : Below B W W') (hg : b < B) : TzAt W' b o ys := fun i y hy => by
  have hc : ∀ o, W'.cell? ⟨b, o, none⟩ = W.cell? ⟨b, o, none⟩ := fun o => hb.cell (p := ⟨b, o, none⟩) hg
  rw [hc, hc, hc, hc, hc]
  exact h i y hy
theorem TzRow.at {W : World} {g : Nat} {ts : List Tz} (h : TzRow W g ts) : TzAt W g 0 ts := fun i t ht => by
  rw [Nat.zero_add]; exact h i t ht

/-- Is what the last token says what bareS keeps? -/
theorem bareS_ah {ts : List Tz} {j : Nat} {p : Tz} (h : ts[j]? = some p) : (bareS (ts.take (j + 1))).2 = outK p.k := by
  rw [bareS_snoc h]
  unfold bareStep
  cases outK p.k <;> rfl

theorem cell5_two (w : World) (o : Obj) (a b c d e : Value) (t : TypeId) : ∀ j x, [a, b, c, d, e][j]? = some x → ((w.alloc o).alloc (.cells #[a, b, c, d, e] t)).cell? ((⟨w.heap.size + 1, 0, none⟩ : Addr).add j) = some x := by
  have := cell5_new (w.alloc o) a b c d e t
  rw [World.size_alloc] at this
  exact this

set_option maxRecDepth 100000 in
set_option maxHeartbeats 4000000 in
theorem rbare_any (ts : List Tz) (n cap : Nat) (a : Option Addr) (w : World) (hn : ts.length = n) (hn2 : n * 48 ≤ 140737488355328)
    (hT : 0 < n → ∃ b o, a = some ⟨b, o, none⟩ ∧ b < w.heap.size ∧ TzAt w b o ts) :
    Calls Try.prog 28 #[.slice a n cap] w fun e w' => (∃ v, e = .returned v ∧ w'.ownsRow w.heap.size 31 5 v (bareS ts).1.length (tzCells (bareS ts).1)) ∧ Below w.heap.size w w' := by
  obtain ⟨i0, hi, hz0, hz1, hz2⟩ := info_parts infoTz
  have HN := Lib.hid hn
  have HT := Lib.hid hT
  clear hn hT
  go_enter Try.func28, Try.ntmps28
  go_wp2
  go_loopg [3, 4, 5] n (fun g v i _ wx => ∃ (k : Nat) (acc : List Tz) (ah : Bool), k ≤ n ∧ i = .int .i64 k ∧ g = n - k ∧ Hid (bareS (ts.take k) = (acc, ah)) ∧ wx.ownsRow w.heap.size 31 5 v acc.length (tzCells acc) ∧ Below w.heap.size w wx)
  case atStart => exact ⟨0, [], false, Nat.zero_le _, rfl, rfl, Lib.hid rfl, World.ownsRow_nil _ _ _ _, Below.refl _ _⟩
  case round =>
    obtain ⟨k, acc, ah, hk, rfl, rfl, HB, hrow, hbx⟩ := hrel
    by_cases hlt : k < n
    · obtain ⟨t, ht⟩ : ∃ t, ts[k]? = some t := ⟨_, List.getElem?_eq_getElem (by rw [HN.out]; exact hlt)⟩
      obtain ⟨b, o, rfl, hg1, hr⟩ := HT.out (by omega)
      have hr := hr.below hbx hg1
      obtain ⟨c0, c1, c2, c3, c4⟩ := hr k t ht
      have hB2 := bareS_snoc ht
      rw [HB.out] at hB2
      have HB2 := Lib.hid hB2
      have hal : acc.length ≤ k := by
        have := bareS_len (ts.take k)
        rw [HB.out, List.length_take] at this
        exact Nat.le_trans this (Nat.min_le_left _ _)
      have hbs := hbx.size
      clear ht hB2
      have j1 : (k : Int) < (n : Int) := by omega
      have j0 : (0 : Int) ≤ (k : Int) := by omega
      obtain ⟨tk, tt, ta, te, tsp⟩ := t
      simp only at c0 c1 c2 c3 c4
      cases h8 : (tk == 8)
      · cases h9 : (tk == 9)
        · have hst : bareStep (acc, ah) ⟨tk, tt, ta, te, tsp⟩ = (acc ++ [⟨tk, tt, ta, te, tsp || ah⟩], false) := by
            unfold bareStep outK; simp only [h8, h9]; rfl
          have HE := Lib.hid (HB2.out.trans hst)
          clear hst HB2
          by_cases hk0 : k = 0
          · have hah : ah = false := by
              have := HB.out
              rw [hk0] at this
              exact (congrArg Prod.snd this).symm
            subst hah
            have hz : ¬ (0 : Int) < (k : Int) := by omega
            clear hk0 hr
            have HE2 : Hid (bareS (ts.take (k + 1)) = (acc ++ [⟨tk, tt, ta, te, tsp⟩], false)) := Lib.hid (by rw [HE.out]; simp)
            clear HE
            go_wp2_with (at_builtin; refine wpList_append_own _ rfl _ _ 22 rfl w.heap.size 31 i0 (.agg #[.int .i64 0, .string ⟨#[]⟩, .int .i64 0, .int .i64 0, .bool false]) 5 48 Try.underlying22 hi hz0 hz1 hz2 rfl (by decide) _ _ _ rfl ((hrow.alloc _).alloc _) ⟨wr.heap.size + 1, 0, none⟩ 1 1 (tzCell ⟨tk, tt, ta, te, tsp⟩) rfl rfl (cell5_two _ _ _ _ _ _ _ _) (by simp [Value.oneCell', tzCell]) (by unfold maxLen; omega) (by omega) (by simp; omega) ?_; intro v' w3 hown hgrow hn3; clear hn3; have hL4 := hrow.lt; have hB4 := (hbx.alloc hbs (.cells #[.int .i64 tk, .string tt, .int .i64 ta, .int .i64 te, .bool tsp] 31)); have hB5 := (hB4.alloc hB4.size _).grown hgrow (by have := hB4.size; simp; omega) (fun j e => (hL4 j e).1))
            go_roundg (n - (k + 1))
            case rel =>
              refine ⟨k + 1, _, false, by omega, by go_num, rfl, HE2, ?_, hB5⟩
              rw [List.length_append, tzCells_snoc]
              exact hown
            case measure => omega
          · obtain ⟨j, rfl⟩ : ∃ j, k = j + 1 := ⟨k - 1, by omega⟩
            obtain ⟨p, hp⟩ : ∃ p, ts[j]? = some p := ⟨_, List.getElem?_eq_getElem (by rw [HN.out]; omega)⟩
            obtain ⟨p0, -⟩ := hr j p hp
            have hah : outK p.k = ah := by rw [← bareS_ah hp, HB.out]
            obtain ⟨pk, pt, pa, pe, psp⟩ := p
            simp only at p0 hah
            have p1 : (wr.alloc (.cells #[.int .i64 tk, .string tt, .int .i64 ta, .int .i64 te, .bool tsp] 31)).cell? ⟨b, o + j * 5, none⟩ = some (.int .i64 pk) := ((below1 wr _).cell (p := ⟨b, o + j * 5, none⟩) (show b < wr.heap.size by omega)).trans p0
            clear hk0 hr hp
            rw [show ((j + 1 : Nat) : Int) = (j : Int) + 1 from rfl] at j0 j1 ⊢
            have j2 : ((j : Int) + 1).toNat = j + 1 := by omega
            have j3 : (0 : Int) ≤ (j : Int) := by omega
            have j4 : (j : Int) < (n : Int) := by omega
            have j5 : (0 : Int) < (j : Int) + 1 := by omega
            cases p8 : (pk == 8)
            · cases p9 : (pk == 9)
              · obtain rfl : ah = false := by rw [← hah]; unfold outK; rw [p8, p9]; rfl
                clear hah
                have HE2 : Hid (bareS (ts.take (j + 1 + 1)) = (acc ++ [⟨tk, tt, ta, te, tsp⟩], false)) := Lib.hid (by rw [HE.out]; simp)
                clear HE
                go_wp2_with (at_builtin; refine wpList_append_own _ rfl _ _ 22 rfl w.heap.size 31 i0 (.agg #[.int .i64 0, .string ⟨#[]⟩, .int .i64 0, .int .i64 0, .bool false]) 5 48 Try.underlying22 hi hz0 hz1 hz2 rfl (by decide) _ _ _ rfl ((hrow.alloc _).alloc _) ⟨wr.heap.size + 1, 0, none⟩ 1 1 (tzCell ⟨tk, tt, ta, te, tsp⟩) rfl rfl (cell5_two _ _ _ _ _ _ _ _) (by simp [Value.oneCell', tzCell]) (by unfold maxLen; omega) (by omega) (by simp; omega) ?_; intro v' w3 hown hgrow hn3; clear hn3; have hL4 := hrow.lt; have hB4 := (hbx.alloc hbs (.cells #[.int .i64 tk, .string tt, .int .i64 ta, .int .i64 te, .bool tsp] 31)); have hB5 := (hB4.alloc hB4.size _).grown hgrow (by have := hB4.size; simp; omega) (fun j e => (hL4 j e).1))
                go_roundg (n - (j + 1 + 1))
                case rel =>
                  refine ⟨j + 1 + 1, _, false, by omega, by go_num, rfl, HE2, ?_, hB5⟩
                  rw [List.length_append, tzCells_snoc]
                  exact hown
                case measure => omega
              · obtain rfl : ah = true := by rw [← hah]; unfold outK; rw [p8, p9]; rfl
                clear hah
                have HE2 : Hid (bareS (ts.take (j + 1 + 1)) = (acc ++ [⟨tk, tt, ta, te, true⟩], false)) := Lib.hid (by rw [HE.out]; simp)
                clear HE
                go_wp2_with (at_builtin; refine wpList_append_own _ rfl _ _ 22 rfl w.heap.size 31 i0 (.agg #[.int .i64 0, .string ⟨#[]⟩, .int .i64 0, .int .i64 0, .bool false]) 5 48 Try.underlying22 hi hz0 hz1 hz2 rfl (by decide) _ _ _ rfl ((hrow.alloc _).alloc _) ⟨wr.heap.size + 1, 0, none⟩ 1 1 (tzCell ⟨tk, tt, ta, te, true⟩) rfl rfl (cell5_two _ _ _ _ _ _ _ _) (by simp [Value.oneCell', tzCell]) (by unfold maxLen; omega) (by omega) (by simp; omega) ?_; intro v' w3 hown hgrow hn3; clear hn3; have hL4 := hrow.lt; have hB4 := (hbx.alloc hbs (.cells #[.int .i64 tk, .string tt, .int .i64 ta, .int .i64 te, .bool true] 31)); have hB5 := (hB4.alloc hB4.size _).grown hgrow (by have := hB4.size; simp; omega) (fun j e => (hL4 j e).1))
                go_roundg (n - (j + 1 + 1))
                case rel =>
                  refine ⟨j + 1 + 1, _, false, by omega, by go_num, rfl, HE2, ?_, hB5⟩
                  rw [List.length_append, tzCells_snoc]
                  exact hown
                case measure => omega
            · obtain rfl : ah = true := by rw [← hah]; unfold outK; rw [p8]; rfl
              clear hah
              have HE2 : Hid (bareS (ts.take (j + 1 + 1)) = (acc ++ [⟨tk, tt, ta, te, true⟩], false)) := Lib.hid (by rw [HE.out]; simp)
              clear HE
              go_wp2_with (at_builtin; refine wpList_append_own _ rfl _ _ 22 rfl w.heap.size 31 i0 (.agg #[.int .i64 0, .string ⟨#[]⟩, .int .i64 0, .int .i64 0, .bool false]) 5 48 Try.underlying22 hi hz0 hz1 hz2 rfl (by decide) _ _ _ rfl ((hrow.alloc _).alloc _) ⟨wr.heap.size + 1, 0, none⟩ 1 1 (tzCell ⟨tk, tt, ta, te, true⟩) rfl rfl (cell5_two _ _ _ _ _ _ _ _) (by simp [Value.oneCell', tzCell]) (by unfold maxLen; omega) (by omega) (by simp; omega) ?_; intro v' w3 hown hgrow hn3; clear hn3; have hL4 := hrow.lt; have hB4 := (hbx.alloc hbs (.cells #[.int .i64 tk, .string tt, .int .i64 ta, .int .i64 te, .bool true] 31)); have hB5 := (hB4.alloc hB4.size _).grown hgrow (by have := hB4.size; simp; omega) (fun j e => (hL4 j e).1))
              go_roundg (n - (j + 1 + 1))
              case rel =>
                refine ⟨j + 1 + 1, _, false, by omega, by go_num, rfl, HE2, ?_, hB5⟩
                rw [List.length_append, tzCells_snoc]
                exact hown
              case measure => omega
        · have hst : bareStep (acc, ah) ⟨tk, tt, ta, te, tsp⟩ = (acc, true) := by unfold bareStep outK; simp only [h8, h9]; rfl
          rw [hst] at HB2
          clear hst hr
          go_wp2
          go_roundg (n - (k + 1))
          case rel => exact ⟨k + 1, acc, true, by omega, by go_num, rfl, HB2, hrow, hbx⟩
          case measure => omega
      · have hst : bareStep (acc, ah) ⟨tk, tt, ta, te, tsp⟩ = (acc, true) := by unfold bareStep outK; simp only [h8]; rfl
        rw [hst] at HB2
        clear hst hr
        go_wp2
        go_roundg (n - (k + 1))
        case rel => exact ⟨k + 1, acc, true, by omega, by go_num, rfl, HB2, hrow, hbx⟩
        case measure => omega
    · obtain rfl : k = n := by omega
      have HB3 := Lib.hid (show bareS ts = (acc, ah) by rw [← HB.out, List.take_of_length_le (by rw [HN.out]; exact Nat.le_refl _)])
      go_wp2
      go_ret
      rw [HB3.out]
      exact ⟨⟨_, rfl, hrow⟩, hbx⟩

set_option maxHeartbeats 2000000 in
theorem same_any (ts : List Tz) (n c1 c2 : Nat) (a1 a2 : Option Addr) (w : World) (hn : ts.length = n) (hn2 : n ≤ maxLen)
    (h1 : 0 < n → ∃ b o, a1 = some ⟨b, o, none⟩ ∧ TzAt w b o ts) (h2 : 0 < n → ∃ b o, a2 = some ⟨b, o, none⟩ ∧ TzAt w b o ts) :
    Calls Try.prog 14 #[.slice a1 n c1, .slice a2 n c2] w fun e w' => e = .returned (.bool true) ∧ ∃ q, w' = w.drewN q := by
  unfold maxLen at hn2
  have HN := Lib.hid hn
  have H1 := Lib.hid h1
  have H2 := Lib.hid h2
  clear hn h1 h2
  go_enter Try.func14, Try.ntmps14
  go_wp2
  go_loopw [5] (fun i wx => ∃ k : Nat, k ≤ n ∧ i = .int .i64 k ∧ ∃ q, wx = w.drewN q) (fun i _ => n - (intOf i).toNat)
  case atStart => exact ⟨0, Nat.zero_le _, rfl, 0, rfl⟩
  case round =>
    obtain ⟨k, hk, rfl, q, rfl⟩ := hrel
    by_cases hlt : k < n
    · obtain ⟨t, ht⟩ : ∃ t, ts[k]? = some t := ⟨_, List.getElem?_eq_getElem (by rw [HN.out]; exact hlt)⟩
      obtain ⟨b, o, rfl, hr⟩ := H1.out (by omega)
      obtain ⟨c0, c1, c2, c3, c4⟩ := hr k t ht
      obtain ⟨b2, o2, rfl, hr2⟩ := H2.out (by omega)
      obtain ⟨d0, d1, d2, d3, d4⟩ := hr2 k t ht
      clear hr hr2 ht
      obtain ⟨tk, tt, ta, te, tsp⟩ := t
      simp only at c0 c1 c2 c3 c4 d0 d1 d2 d3 d4
      have j1 : (k : Int) < (n : Int) := by omega
      have j0 : (0 : Int) ≤ (k : Int) := by omega
      go_wp2
      go_big_quiet (fail)
      go_wp2
      refine ⟨⟨k + 1, by omega, by go_num, _, rfl⟩, ?_⟩
      simp [intOf]; omega
    · go_wp2
      go_ret
      exact ⟨rfl, q, rfl⟩

end Go.Proofs.Ytpomcdolpmbhdaa
