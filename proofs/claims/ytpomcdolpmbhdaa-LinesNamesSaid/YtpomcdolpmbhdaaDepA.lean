/- Several texts laid together. -/
import Derived.Test.YtpomcdolpmbhdaaSaysR
import Derived.Test.YtpomcdolpmbhdaaLnA

namespace Go.Proofs.Ytpomcdolpmbhdaa
open Go.RowKit

/-- What lines.Depths must answer (to be proved of the program). -/
def DepthsOk : Prop := ∀ (n cap : Nat) (a : Option Addr) (w : World) (rs : List Rz), n * 48 ≤ 140737488355328 → rs.length = n → RzIn w a rs →
    Calls Try.prog 16 #[.slice a n cap] w fun e w' => (∃ v, e = .returned (.tuple #[v, .int .i64 (depE rs)]) ∧ (∀ o, depS rs = some o → w'.ownsRow w.heap.size 3 1 v o.length (intC o)) ∧ (depS rs = none → ∃ b c, v = .slice b 0 c)) ∧ Below w.heap.size w w'

theorem ints_own {W : World} {B : Nat} {v : Value} {o : List Nat} (h : W.ownsRow B 3 1 v o.length (intC o)) : ∃ a cap, v = .slice a o.length cap ∧ (∀ W', Below W.heap.size W W' → IntsIn W' a o) := by
  obtain ⟨a, cap, rfl⟩ := row_shape h
  refine ⟨a, cap, rfl, fun W' hb hp => ?_⟩
  obtain ⟨g, rfl, hg, hc⟩ := row_pos hp h
  refine ⟨g, 0, rfl, fun j x hx => ?_⟩
  rw [Nat.zero_add, show W'.cell? ⟨g, j, none⟩ = W.cell? ⟨g, j, none⟩ from hb.cell (p := ⟨g, j, none⟩) hg]
  refine hc j _ ?_
  unfold intC
  rw [List.getElem?_map, hx]; rfl
theorem twin_in {W : World} {B : Nat} {v : Value} {rs : List Rz} {vs : List Value} (h : OwnRz W B v rs vs) : ∃ a cap, v = .slice a rs.length cap ∧ RzIn W a rs := by
  obtain ⟨a, cap, e, h2⟩ := h.at
  refine ⟨a, cap, e, fun hp => ?_⟩
  obtain ⟨g, e2, _, hg, hr⟩ := h2 hp
  exact ⟨g, 0, e2, hg, hr⟩

set_option maxRecDepth 100000 in
set_option maxHeartbeats 4000000 in
theorem depths_law (HP : DepthsOk) (n cap : Nat) (a : Option Addr) (w : World) (rs : List Rz) (hn2 : n * 48 ≤ 140737488355328) (hn : rs.length = n) (hts : ∀ r ∈ rs, r.ts.length * 48 ≤ 140737488355328) (hT : RzIn w a rs) :
    Calls Try.prog 4 #[.slice a n cap] w fun e w' => e = .returned (.bool true) ∧ Below w.heap.size w w' := by
  have CT := twin_any n cap a w hn2 rs hn hts (by rw [← hn]; exact hT)
  have CP := fun (a' : Option Addr) (cap' : Nat) (w' : World) (h : RzIn w' a' rs) => HP n cap' a' w' rs hn2 hn h
  have CR := fun (w' : World) (h : RzIn w' a rs) => rDepths_any n cap a w' hn2 rs hn h
  have CS := fun (a' : Option Addr) (cap' : Nat) (w' : World) (h1 : RzIn w' a' rs) (h2 : RzIn w' a rs) => rsame_any rs n cap' cap a' a w' hn hn2 hts h1 h2
  have HT := Lib.hid hT
  have HN := Lib.hid hn
  clear hT hts hn HP
  go_enter Try.func4, Try.ntmps4
  go_wp2_with fail
  refine CT.mono ?_
  rintro e w1 ⟨⟨v1, vs1, rfl, ho1⟩, hb1⟩
  obtain ⟨a1, cap1, rfl, hi1⟩ := twin_in ho1
  rw [HN.out]
  have HI1 := Lib.hid hi1
  clear ho1 CT hi1
  go_wp2_with fail
  refine (CP _ _ _ HI1.out).mono ?_
  rintro e w2 ⟨⟨v2, rfl, h2a, h2b⟩, hb2⟩
  have hB2 := hb1.trans (hb2.mono hb1.size)
  cases hd : depS rs with
  | none =>
    have hE := depE_none hd
    obtain ⟨b2, c2, rfl⟩ := h2b hd
    rw [hd, hE] at CR
    rw [hE]
    clear h2a h2b CP hd hE
    go_wp2_with fail
    refine (CR _ (HT.out.below hB2)).mono ?_
    rintro e w3 ⟨⟨v3, rfl, -, h3⟩, hb3⟩
    have hv3 := h3 (by first | trivial | rfl)
    subst hv3
    have hB3 := hB2.trans (hb3.mono hB2.size)
    clear CR h3
    go_wp2_with fail
    refine (ints_any [] 0 c2 0 b2 none w3 rfl (Nat.zero_le _) (fun h => absurd h (Nat.lt_irrefl 0)) (fun h => absurd h (Nat.lt_irrefl 0))).mono ?_
    rintro e w4 ⟨rfl, q, rfl⟩
    have hb3q : Below w1.heap.size w1 (w3.drewN q) := below_drewN (hb2.trans (hb3.mono hb2.size)) q
    have hB3q : Below w.heap.size w (w3.drewN q) := below_drewN hB3 q
    go_wp2_with fail
    refine (CS _ _ _ (HI1.out.below hb3q) (HT.out.below hB3q)).mono ?_
    rintro e w5 ⟨rfl, q2, rfl⟩
    go_wp2
    go_ret
    exact ⟨rfl, below_drewN hB3 _⟩
  | some o =>
    have hE := depE_some hd
    have h2 := h2a o hd
    obtain ⟨b2, c2, rfl, hI2⟩ := ints_own h2
    rw [hd, hE] at CR
    rw [hE]
    have hol : o.length ≤ maxLen := by
      rcases h2.2 with ⟨_, h0⟩ | ⟨_, cp, _, _, _, _, h3, h4, _⟩
      · rw [h0]; exact Nat.zero_le _
      · omega
    clear h2a h2b CP hd hE h2
    go_wp2_with fail
    refine (CR _ (HT.out.below hB2)).mono ?_
    rintro e w3 ⟨⟨v3, rfl, h3, -⟩, hb3⟩
    obtain ⟨b3, c3, rfl, hI3⟩ := ints_own (h3 o rfl)
    have hB3 := hB2.trans (hb3.mono hB2.size)
    have HI2 := Lib.hid (hI2 w3 hb3)
    have HI3 := Lib.hid (hI3 w3 (Below.refl _ _))
    clear CR h3 hI2 hI3
    go_wp2_with fail
    refine (ints_any o o.length c2 c3 b2 b3 w3 rfl hol HI2.out HI3.out).mono ?_
    rintro e w4 ⟨rfl, q, rfl⟩
    have hb3q : Below w1.heap.size w1 (w3.drewN q) := below_drewN (hb2.trans (hb3.mono hb2.size)) q
    have hB3q : Below w.heap.size w (w3.drewN q) := below_drewN hB3 q
    go_wp2_with fail
    refine (CS _ _ _ (HI1.out.below hb3q) (HT.out.below hB3q)).mono ?_
    rintro e w5 ⟨rfl, q2, rfl⟩
    go_wp2
    go_ret
    exact ⟨rfl, below_drewN hB3 _⟩

end Go.Proofs.Ytpomcdolpmbhdaa

namespace Go.Proofs.Ytpomcdolpmbhdaa
open Go.RowKit

/-- What stands open: is its #else met? -/
def boolC (l : List Nat) : List Value := l.map fun x => Value.bool (x == 3)
theorem boolC_app (a b : List Nat) : boolC (a ++ b) = boolC a ++ boolC b := List.map_append ..
theorem boolC_len (a : List Nat) : (boolC a).length = a.length := List.length_map ..
theorem infoBool : (Try.prog.info? 4).map (fun i => (i.zero, i.size, i.bytes)) = some (some (.bool false), 1, 1) := by kernel_rfl
theorem turn_name (r : Rz) : turnS r = turnL (nameS r).toList := by
  unfold turnS nameS
  cases r.d
  · rw [if_neg (by decide), if_neg (by decide)]; decide +kernel
  · rfl
theorem turn_cases (nl : List UInt8) : (turnL nl = 0 ∧ (nl == [105, 102]) = false ∧ (nl == [105, 102, 100, 101, 102]) = false ∧ (nl == [105, 102, 110, 100, 101, 102]) = false ∧ (nl == [101, 108, 105, 102]) = false ∧ (nl == [101, 108, 115, 101]) = false ∧ (nl == [101, 110, 100, 105, 102]) = false) ∨ (turnL nl = 1 ∧ (nl == [105, 102]) = true ∧ (nl == [105, 102, 100, 101, 102]) = false ∧ (nl == [105, 102, 110, 100, 101, 102]) = false ∧ (nl == [101, 108, 105, 102]) = false ∧ (nl == [101, 108, 115, 101]) = false ∧ (nl == [101, 110, 100, 105, 102]) = false) ∨ (turnL nl = 1 ∧ (nl == [105, 102]) = false ∧ (nl == [105, 102, 100, 101, 102]) = true ∧ (nl == [105, 102, 110, 100, 101, 102]) = false ∧ (nl == [101, 108, 105, 102]) = false ∧ (nl == [101, 108, 115, 101]) = false ∧ (nl == [101, 110, 100, 105, 102]) = false) ∨ (turnL nl = 1 ∧ (nl == [105, 102]) = false ∧ (nl == [105, 102, 100, 101, 102]) = false ∧ (nl == [105, 102, 110, 100, 101, 102]) = true ∧ (nl == [101, 108, 105, 102]) = false ∧ (nl == [101, 108, 115, 101]) = false ∧ (nl == [101, 110, 100, 105, 102]) = false) ∨ (turnL nl = 2 ∧ (nl == [105, 102]) = false ∧ (nl == [105, 102, 100, 101, 102]) = false ∧ (nl == [105, 102, 110, 100, 101, 102]) = false ∧ (nl == [101, 108, 105, 102]) = true ∧ (nl == [101, 108, 115, 101]) = false ∧ (nl == [101, 110, 100, 105, 102]) = false) ∨ (turnL nl = 3 ∧ (nl == [105, 102]) = false ∧ (nl == [105, 102, 100, 101, 102]) = false ∧ (nl == [105, 102, 110, 100, 101, 102]) = false ∧ (nl == [101, 108, 105, 102]) = false ∧ (nl == [101, 108, 115, 101]) = true ∧ (nl == [101, 110, 100, 105, 102]) = false) ∨ (turnL nl = 4 ∧ (nl == [105, 102]) = false ∧ (nl == [105, 102, 100, 101, 102]) = false ∧ (nl == [105, 102, 110, 100, 101, 102]) = false ∧ (nl == [101, 108, 105, 102]) = false ∧ (nl == [101, 108, 115, 101]) = false ∧ (nl == [101, 110, 100, 105, 102]) = true) := by
  by_cases h0 : nl = [105, 102]
  · subst h0; decide +kernel
  by_cases h1 : nl = [105, 102, 100, 101, 102]
  · subst h1; decide +kernel
  by_cases h2 : nl = [105, 102, 110, 100, 101, 102]
  · subst h2; decide +kernel
  by_cases h3 : nl = [101, 108, 105, 102]
  · subst h3; decide +kernel
  by_cases h4 : nl = [101, 108, 115, 101]
  · subst h4; decide +kernel
  by_cases h5 : nl = [101, 110, 100, 105, 102]
  · subst h5; decide +kernel
  left
  unfold turnL
  have e0 := beq_eq_false_iff_ne.2 h0
  have e1 := beq_eq_false_iff_ne.2 h1
  have e2 := beq_eq_false_iff_ne.2 h2
  have e3 := beq_eq_false_iff_ne.2 h3
  have e4 := beq_eq_false_iff_ne.2 h4
  have e5 := beq_eq_false_iff_ne.2 h5
  simp [e0, e1, e2, e3, e4, e5]

set_option maxRecDepth 100000 in
set_option maxHeartbeats 16000000 in
theorem depths_any : DepthsOk := by
  intro n cap a w rs hn2 hn hT
  obtain ⟨i0, hi, hz0, hz1, hz2⟩ := info_parts infoInt
  obtain ⟨j0, hj, hy0, hy1, hy2⟩ := info_parts infoBool
  have HN := Lib.hid hn
  have HT := Lib.hid hT
  clear hn hT
  go_enter Try.func16, Try.ntmps16
  go_wp2
  go_loopg [4, 5, 12] n (fun g out last i wx => ∃ (k : Nat) (o l : List Nat), k ≤ n ∧ i = .int .i64 k ∧ g = n - k ∧ Hid (depFold (rs.take k) = some (o, l)) ∧ o.length = k ∧ l.length ≤ k ∧
    wx.ownsRow w.heap.size 3 1 out o.length (intC o) ∧ wx.ownsRow w.heap.size 4 1 last l.length (boolC l) ∧ Below w.heap.size w wx)
  case atStart => exact ⟨0, [], [], Nat.zero_le _, rfl, rfl, Lib.hid rfl, rfl, Nat.le_refl _, World.ownsRow_nil _ _ _ _, World.ownsRow_nil _ _ _ _, Below.refl _ _⟩
  case round =>
    obtain ⟨k, o, l, hk, rfl, rfl, HD, hol, hll, hO, hL, hbx⟩ := hrel
    by_cases hlt : k < n
    · obtain ⟨r, hr⟩ : ∃ r, rs[k]? = some r := ⟨_, List.getElem?_eq_getElem (by rw [HN.out]; exact hlt)⟩
      obtain ⟨b, ob, rfl, hg1, hrz⟩ := HT.out (by rw [HN.out]; omega)
      obtain ⟨c0, c1, ta, tcap, c2, -⟩ := (hrz.below hbx hg1) k r hr
      have hstep := depFold_snoc hr
      rw [HD.out, Option.bind_some, turn_name] at hstep
      have CT := fun w' => nameOf_any r (.slice ta r.ts.length tcap) w'
      obtain ⟨NM, hNM⟩ : ∃ NM, nameS r = NM := ⟨_, rfl⟩
      rw [hNM] at CT hstep
      have HS := Lib.hid hstep
      have HC := turn_cases NM.toList
      clear hr hrz hNM hstep HD
      have hbs := hbx.size
      have j1 : (k : Int) < (n : Int) := by omega
      have j2 : (0 : Int) ≤ (k : Int) := by omega
      have hk9 : k < 9223372036854775807 := by omega
      rcases HC with ⟨hK, f0, f1, f2, f3, f4, f5⟩ | ⟨hK, f0, f1, f2, f3, f4, f5⟩ | ⟨hK, f0, f1, f2, f3, f4, f5⟩ | ⟨hK, f0, f1, f2, f3, f4, f5⟩ | ⟨hK, f0, f1, f2, f3, f4, f5⟩ | ⟨hK, f0, f1, f2, f3, f4, f5⟩ | ⟨hK, f0, f1, f2, f3, f4, f5⟩
      · obtain ⟨la, lcap, rfl⟩ := row_shapeD hL
        have HS3 : Hid (depFold (rs.take (k + 1)) = some (o ++ [l.length], l)) := Lib.hid (by rw [HS.out, hK]; rfl)
        clear HS hK
        go_wp2_with fail
        refine (CT _).mono ?_
        rintro e w1 ⟨rfl, hb1⟩
        have hO1 := row_below (hO.alloc _) hb1
        have hL1 := row_below (hL.alloc _) hb1
        have hB1 := bch2 (hbx.alloc hbs _) hb1 (by simp; omega)
        have hs1 := hB1.size
        go_wp2_with (at_builtin; (refine wpList_append_own _ rfl _ _ 34 rfl w.heap.size 3 i0 (.int .i64 0) 1 8 Try.underlying34 hi hz0 hz1 hz2 rfl (by decide) _ _ _ rfl (hO1.alloc _) ⟨w1.heap.size, 0, none⟩ 1 1 [.int .i64 l.length] rfl rfl (cell1_newS _ _ _) (by simp [Value.oneCell']) (by unfold maxLen; omega) (by omega) (by simp; omega) ?_; intro v8 w8 hO8 hg8 hn8; clear hn8; have hL8 := ownsRow_keepsT hL1 ((KeepsT.alloc _ _ (.cells #[.int .i64 l.length] 3)).trans (KeepsT.grown_row hg8 (hO1.alloc _) (by decide))); have hB8 := (hB1.alloc hs1 _).grown hg8 (by simp; omega) (fun j e => (hO1.lt j e).1)))
        go_roundg (n - (k + 1))
        case rel => exact ⟨k + 1, o ++ [l.length], l, by omega, by go_num, rfl, HS3, by rw [List.length_append, hol]; rfl, by omega, by rw [List.length_append, intC_app]; exact hO8, hL8, hB8⟩
        case measure => omega
      · obtain ⟨la, lcap, rfl⟩ := row_shapeD hL
        have HS3 : Hid (depFold (rs.take (k + 1)) = some (o ++ [l.length], l ++ [1])) := Lib.hid (by rw [HS.out, hK]; rfl)
        clear HS hK
        go_wp2_with fail
        refine (CT _).mono ?_
        rintro e w1 ⟨rfl, hb1⟩
        have hO1 := row_below (hO.alloc _) hb1
        have hL1 := row_below (hL.alloc _) hb1
        have hB1 := bch2 (hbx.alloc hbs _) hb1 (by simp; omega)
        have hs1 := hB1.size
        go_wp2_with (at_builtin; first | (refine wpList_append_own _ rfl _ _ 56 rfl w.heap.size 4 j0 (.bool false) 1 1 Try.underlying56 hj hy0 hy1 hy2 rfl (by decide) _ _ _ rfl (hL1.alloc _) ⟨w1.heap.size, 0, none⟩ 1 1 [.bool false] rfl rfl (cell1_newS _ _ _) (by simp [Value.oneCell']) (by unfold maxLen; omega) (by omega) (by simp; omega) ?_; intro v2 w2 hL2 hg2 hn2; clear hn2; have hO2 := ownsRow_keepsT hO1 ((KeepsT.alloc _ _ (.cells #[.bool false] 4)).trans (KeepsT.grown_row hg2 (hL1.alloc _) (by decide))); have hB2 := (hB1.alloc hs1 _).grown hg2 (by simp; omega) (fun j e => (hL1.lt j e).1); have hs2 := hB2.size) | (refine wpList_append_own _ rfl _ _ 34 rfl w.heap.size 3 i0 (.int .i64 0) 1 8 Try.underlying34 hi hz0 hz1 hz2 rfl (by decide) _ _ _ rfl (hO2.alloc _) ⟨w2.heap.size, 0, none⟩ 1 1 [.int .i64 l.length] rfl rfl (cell1_newS _ _ _) (by simp [Value.oneCell']) (by unfold maxLen; omega) (by omega) (by simp; omega) ?_; intro v8 w8 hO8 hg8 hn8; clear hn8; have hL8 := ownsRow_keepsT hL2 ((KeepsT.alloc _ _ (.cells #[.int .i64 l.length] 3)).trans (KeepsT.grown_row hg8 (hO2.alloc _) (by decide))); have hB8 := (hB2.alloc hs2 _).grown hg8 (by simp; omega) (fun j e => (hO2.lt j e).1)))
        go_roundg (n - (k + 1))
        case rel => exact ⟨k + 1, o ++ [l.length], l ++ [1], by omega, by go_num, rfl, HS3, by rw [List.length_append, hol]; rfl, by rw [List.length_append]; simp only [List.length_cons, List.length_nil]; omega, by rw [List.length_append, intC_app]; exact hO8, by rw [List.length_append, boolC_app]; exact hL8, hB8⟩
        case measure => omega
      · obtain ⟨la, lcap, rfl⟩ := row_shapeD hL
        have HS3 : Hid (depFold (rs.take (k + 1)) = some (o ++ [l.length], l ++ [1])) := Lib.hid (by rw [HS.out, hK]; rfl)
        clear HS hK
        go_wp2_with fail
        refine (CT _).mono ?_
        rintro e w1 ⟨rfl, hb1⟩
        have hO1 := row_below (hO.alloc _) hb1
        have hL1 := row_below (hL.alloc _) hb1
        have hB1 := bch2 (hbx.alloc hbs _) hb1 (by simp; omega)
        have hs1 := hB1.size
        go_wp2_with (at_builtin; first | (refine wpList_append_own _ rfl _ _ 56 rfl w.heap.size 4 j0 (.bool false) 1 1 Try.underlying56 hj hy0 hy1 hy2 rfl (by decide) _ _ _ rfl (hL1.alloc _) ⟨w1.heap.size, 0, none⟩ 1 1 [.bool false] rfl rfl (cell1_newS _ _ _) (by simp [Value.oneCell']) (by unfold maxLen; omega) (by omega) (by simp; omega) ?_; intro v2 w2 hL2 hg2 hn2; clear hn2; have hO2 := ownsRow_keepsT hO1 ((KeepsT.alloc _ _ (.cells #[.bool false] 4)).trans (KeepsT.grown_row hg2 (hL1.alloc _) (by decide))); have hB2 := (hB1.alloc hs1 _).grown hg2 (by simp; omega) (fun j e => (hL1.lt j e).1); have hs2 := hB2.size) | (refine wpList_append_own _ rfl _ _ 34 rfl w.heap.size 3 i0 (.int .i64 0) 1 8 Try.underlying34 hi hz0 hz1 hz2 rfl (by decide) _ _ _ rfl (hO2.alloc _) ⟨w2.heap.size, 0, none⟩ 1 1 [.int .i64 l.length] rfl rfl (cell1_newS _ _ _) (by simp [Value.oneCell']) (by unfold maxLen; omega) (by omega) (by simp; omega) ?_; intro v8 w8 hO8 hg8 hn8; clear hn8; have hL8 := ownsRow_keepsT hL2 ((KeepsT.alloc _ _ (.cells #[.int .i64 l.length] 3)).trans (KeepsT.grown_row hg8 (hO2.alloc _) (by decide))); have hB8 := (hB2.alloc hs2 _).grown hg8 (by simp; omega) (fun j e => (hO2.lt j e).1)))
        go_roundg (n - (k + 1))
        case rel => exact ⟨k + 1, o ++ [l.length], l ++ [1], by omega, by go_num, rfl, HS3, by rw [List.length_append, hol]; rfl, by rw [List.length_append]; simp only [List.length_cons, List.length_nil]; omega, by rw [List.length_append, intC_app]; exact hO8, by rw [List.length_append, boolC_app]; exact hL8, hB8⟩
        case measure => omega
      · obtain ⟨la, lcap, rfl⟩ := row_shapeD hL
        have HS3 : Hid (depFold (rs.take (k + 1)) = some (o ++ [l.length], l ++ [1])) := Lib.hid (by rw [HS.out, hK]; rfl)
        clear HS hK
        go_wp2_with fail
        refine (CT _).mono ?_
        rintro e w1 ⟨rfl, hb1⟩
        have hO1 := row_below (hO.alloc _) hb1
        have hL1 := row_below (hL.alloc _) hb1
        have hB1 := bch2 (hbx.alloc hbs _) hb1 (by simp; omega)
        have hs1 := hB1.size
        go_wp2_with (at_builtin; first | (refine wpList_append_own _ rfl _ _ 56 rfl w.heap.size 4 j0 (.bool false) 1 1 Try.underlying56 hj hy0 hy1 hy2 rfl (by decide) _ _ _ rfl (hL1.alloc _) ⟨w1.heap.size, 0, none⟩ 1 1 [.bool false] rfl rfl (cell1_newS _ _ _) (by simp [Value.oneCell']) (by unfold maxLen; omega) (by omega) (by simp; omega) ?_; intro v2 w2 hL2 hg2 hn2; clear hn2; have hO2 := ownsRow_keepsT hO1 ((KeepsT.alloc _ _ (.cells #[.bool false] 4)).trans (KeepsT.grown_row hg2 (hL1.alloc _) (by decide))); have hB2 := (hB1.alloc hs1 _).grown hg2 (by simp; omega) (fun j e => (hL1.lt j e).1); have hs2 := hB2.size) | (refine wpList_append_own _ rfl _ _ 34 rfl w.heap.size 3 i0 (.int .i64 0) 1 8 Try.underlying34 hi hz0 hz1 hz2 rfl (by decide) _ _ _ rfl (hO2.alloc _) ⟨w2.heap.size, 0, none⟩ 1 1 [.int .i64 l.length] rfl rfl (cell1_newS _ _ _) (by simp [Value.oneCell']) (by unfold maxLen; omega) (by omega) (by simp; omega) ?_; intro v8 w8 hO8 hg8 hn8; clear hn8; have hL8 := ownsRow_keepsT hL2 ((KeepsT.alloc _ _ (.cells #[.int .i64 l.length] 3)).trans (KeepsT.grown_row hg8 (hO2.alloc _) (by decide))); have hB8 := (hB2.alloc hs2 _).grown hg8 (by simp; omega) (fun j e => (hO2.lt j e).1)))
        go_roundg (n - (k + 1))
        case rel => exact ⟨k + 1, o ++ [l.length], l ++ [1], by omega, by go_num, rfl, HS3, by rw [List.length_append, hol]; rfl, by rw [List.length_append]; simp only [List.length_cons, List.length_nil]; omega, by rw [List.length_append, intC_app]; exact hO8, by rw [List.length_append, boolC_app]; exact hL8, hB8⟩
        case measure => omega
      · rcases List.eq_nil_or_concat l with rfl | ⟨l0, x, rfl⟩
        · obtain ⟨la, lcap, rfl⟩ := row_shapeD hL
          have HE := Lib.hid (depFold_none (rs := rs) (k := k + 1) (by rw [HS.out, hK]; rfl))
          clear HS hK
          go_wp2_with fail
          refine (CT _).mono ?_
          rintro e w1 ⟨rfl, hb1⟩
          have hO1 := row_below (hO.alloc _) hb1
          have hL1 := row_below (hL.alloc _) hb1
          have hB1 := bch2 (hbx.alloc hbs _) hb1 (by simp; omega)
          have hs1 := hB1.size
          go_wp2
          go_ret2
          exact ⟨⟨_, rv2 (by rw [depE_none HE.out]), (fun o h => by rw [HE.out] at h; cases h), fun _ => ⟨_, _, rfl⟩⟩, hB1⟩
        · rw [List.concat_eq_append] at HS hL hll
          have hst := HS.out
          rw [hK, step_last (by omega)] at hst
          have HS2 := Lib.hid hst
          clear hst HS hK
          have hll2 : l0.length + 1 ≤ k := by rw [List.length_append] at hll; simpa using hll
          rw [show (l0 ++ [x]).length = l0.length + 1 by simp] at hL
          obtain ⟨g, lcap, rfl, hcl⟩ := row_someD hL
          have cx : wr.cell? ⟨g, l0.length, none⟩ = some (.bool (x == 3)) := hcl _ _ (by rw [boolC_app, List.getElem?_append_right (by rw [boolC_len]; exact Nat.le_refl _), boolC_len, Nat.sub_self]; rfl)
          have hgl := (hL.lt g rfl).2
          have hcap : (l0.length : Int) ≤ (lcap : Int) := by have := row_cap hL; omega
          have v1 : wrap64 ((l0.length : Int) + 1 - 1) = (l0.length : Int) := by rw [show (l0.length : Int) + 1 - 1 = (l0.length : Int) by omega]; exact IntWalk.wrap64_in _ (by omega)
          have v2 : (l0.length : Int) + 1 - 1 = (l0.length : Int) := by omega
          have v3 : ((l0.length : Int) + 1 == 0) = false := beq_eq_false_iff_ne.2 (by omega)
          have v4 : (l0.length : Int) < (l0.length : Int) + 1 := by omega
          have v5 : (0 : Int) ≤ (l0.length : Int) := by omega
          clear hcl
          by_cases hx : x = 3
          · have HE := Lib.hid (depFold_none (rs := rs) (k := k + 1) (by rw [HS2.out, if_pos ⟨by omega, hx⟩]))
            have x3 : (x == 3) = true := by simp [hx]
            rw [x3] at cx
            clear HS2 x3 hx
            go_wp2_with fail
            refine (CT _).mono ?_
            rintro e w1 ⟨rfl, hb1⟩
            have hO1 := row_below (hO.alloc _) hb1
            have hL1 := row_below (hL.alloc _) hb1
            have hB1 := bch2 (hbx.alloc hbs _) hb1 (by simp; omega)
            have hs1 := hB1.size
            have cx1 := (((hb1.cell (p := ⟨g, l0.length, none⟩) (by simp; omega)).trans ((below1 wr _).cell (p := ⟨g, l0.length, none⟩) hgl)).trans cx)
            go_wp2
            go_ret2
            exact ⟨⟨_, rv2 (by rw [depE_none HE.out]), (fun o h => by rw [HE.out] at h; cases h), fun _ => ⟨_, _, rfl⟩⟩, hB1⟩
          · have HS3 : Hid (depFold (rs.take (k + 1)) = some (o ++ [l0.length], l0 ++ [2])) := Lib.hid (by rw [HS2.out, if_neg (fun h => hx h.2), if_neg (by omega)])
            have x3 : (x == 3) = false := beq_eq_false_iff_ne.2 hx
            rw [x3] at cx
            clear HS2 x3 hx
            go_wp2_with fail
            refine (CT _).mono ?_
            rintro e w1 ⟨rfl, hb1⟩
            have hO1 := row_below (hO.alloc _) hb1
            have hL1 := row_below (hL.alloc _) hb1
            have hB1 := bch2 (hbx.alloc hbs _) hb1 (by simp; omega)
            have hs1 := hB1.size
            have cx1 := (((hb1.cell (p := ⟨g, l0.length, none⟩) (by simp; omega)).trans ((below1 wr _).cell (p := ⟨g, l0.length, none⟩) hgl)).trans cx)
            have fz1 : w1.frozen? ⟨g, l0.length, none⟩ = false := hL1.frozenAt l0.length
            obtain ⟨hL1s, hgs⟩ := hL1.stored l0.length (.bool false)
            have hset : (boolC (l0 ++ [x])).set l0.length (.bool false) = boolC (l0 ++ [2]) := by
              rw [boolC_app, boolC_app, List.set_append_right _ _ (by rw [boolC_len]; exact Nat.le_refl _), boolC_len, Nat.sub_self]; rfl
            rw [hset] at hL1s
            have hO1s := ownsRow_keepsT hO1 (KeepsT.grown_row hgs hL1 (by decide))
            have hB1s : Below w.heap.size w (w1.setCell ⟨g, l0.length, none⟩ (.bool false)) := hB1.setCell (hL.lt g rfl).1 _
            have hs1s := hB1s.size
            have hszs : (w1.setCell ⟨g, l0.length, none⟩ (.bool false)).heap.size = w1.heap.size := by simp [World.setCell]
            have hnew : ∀ j u, [Value.int .i64 (l0.length : Int)][j]? = some u → ((w1.setCell ⟨g, l0.length, none⟩ (.bool false)).alloc (.cells #[.int .i64 (l0.length : Int)] 3)).cell? ((⟨w1.heap.size, 0, none⟩ : Addr).add j) = some u := by rw [← hszs]; exact cell1_newS _ _ _
            clear hset
            go_wp2_with (at_builtin; (refine wpList_append_own _ rfl _ _ 34 rfl w.heap.size 3 i0 (.int .i64 0) 1 8 Try.underlying34 hi hz0 hz1 hz2 rfl (by decide) _ _ _ rfl (hO1s.alloc _) ⟨w1.heap.size, 0, none⟩ 1 1 [.int .i64 (l0.length : Int)] rfl rfl hnew (by simp [Value.oneCell']) (by unfold maxLen; omega) (by omega) (by simp; omega) ?_; intro v8 w8 hO8 hg8 hn8; clear hn8; have hL8 := ownsRow_keepsT hL1s ((KeepsT.alloc _ _ (.cells #[.int .i64 (l0.length : Int)] 3)).trans (KeepsT.grown_row hg8 (hO1s.alloc _) (by decide))); have hB8 := (hB1s.alloc hs1s _).grown hg8 (by simp; omega) (fun j e => (hO1s.lt j e).1)))
            go_roundg (n - (k + 1))
            case rel => exact ⟨k + 1, o ++ [l0.length], l0 ++ [2], by omega, by go_num, rfl, HS3, by rw [List.length_append, hol]; rfl, by rw [List.length_append]; simp only [List.length_cons, List.length_nil]; omega, by rw [List.length_append, intC_app]; exact hO8, by rw [List.length_append]; exact hL8, hB8⟩
            case measure => omega
      · rcases List.eq_nil_or_concat l with rfl | ⟨l0, x, rfl⟩
        · obtain ⟨la, lcap, rfl⟩ := row_shapeD hL
          have HE := Lib.hid (depFold_none (rs := rs) (k := k + 1) (by rw [HS.out, hK]; rfl))
          clear HS hK
          go_wp2_with fail
          refine (CT _).mono ?_
          rintro e w1 ⟨rfl, hb1⟩
          have hO1 := row_below (hO.alloc _) hb1
          have hL1 := row_below (hL.alloc _) hb1
          have hB1 := bch2 (hbx.alloc hbs _) hb1 (by simp; omega)
          have hs1 := hB1.size
          go_wp2
          go_ret2
          exact ⟨⟨_, rv2 (by rw [depE_none HE.out]), (fun o h => by rw [HE.out] at h; cases h), fun _ => ⟨_, _, rfl⟩⟩, hB1⟩
        · rw [List.concat_eq_append] at HS hL hll
          have hst := HS.out
          rw [hK, step_last (by omega)] at hst
          have HS2 := Lib.hid hst
          clear hst HS hK
          have hll2 : l0.length + 1 ≤ k := by rw [List.length_append] at hll; simpa using hll
          rw [show (l0 ++ [x]).length = l0.length + 1 by simp] at hL
          obtain ⟨g, lcap, rfl, hcl⟩ := row_someD hL
          have cx : wr.cell? ⟨g, l0.length, none⟩ = some (.bool (x == 3)) := hcl _ _ (by rw [boolC_app, List.getElem?_append_right (by rw [boolC_len]; exact Nat.le_refl _), boolC_len, Nat.sub_self]; rfl)
          have hgl := (hL.lt g rfl).2
          have hcap : (l0.length : Int) ≤ (lcap : Int) := by have := row_cap hL; omega
          have v1 : wrap64 ((l0.length : Int) + 1 - 1) = (l0.length : Int) := by rw [show (l0.length : Int) + 1 - 1 = (l0.length : Int) by omega]; exact IntWalk.wrap64_in _ (by omega)
          have v2 : (l0.length : Int) + 1 - 1 = (l0.length : Int) := by omega
          have v3 : ((l0.length : Int) + 1 == 0) = false := beq_eq_false_iff_ne.2 (by omega)
          have v4 : (l0.length : Int) < (l0.length : Int) + 1 := by omega
          have v5 : (0 : Int) ≤ (l0.length : Int) := by omega
          clear hcl
          by_cases hx : x = 3
          · have HE := Lib.hid (depFold_none (rs := rs) (k := k + 1) (by rw [HS2.out, if_pos ⟨by omega, hx⟩]))
            have x3 : (x == 3) = true := by simp [hx]
            rw [x3] at cx
            clear HS2 x3 hx
            go_wp2_with fail
            refine (CT _).mono ?_
            rintro e w1 ⟨rfl, hb1⟩
            have hO1 := row_below (hO.alloc _) hb1
            have hL1 := row_below (hL.alloc _) hb1
            have hB1 := bch2 (hbx.alloc hbs _) hb1 (by simp; omega)
            have hs1 := hB1.size
            have cx1 := (((hb1.cell (p := ⟨g, l0.length, none⟩) (by simp; omega)).trans ((below1 wr _).cell (p := ⟨g, l0.length, none⟩) hgl)).trans cx)
            go_wp2
            go_ret2
            exact ⟨⟨_, rv2 (by rw [depE_none HE.out]), (fun o h => by rw [HE.out] at h; cases h), fun _ => ⟨_, _, rfl⟩⟩, hB1⟩
          · have HS3 : Hid (depFold (rs.take (k + 1)) = some (o ++ [l0.length], l0 ++ [3])) := Lib.hid (by rw [HS2.out, if_neg (fun h => hx h.2), if_neg (by omega)])
            have x3 : (x == 3) = false := beq_eq_false_iff_ne.2 hx
            rw [x3] at cx
            clear HS2 x3 hx
            go_wp2_with fail
            refine (CT _).mono ?_
            rintro e w1 ⟨rfl, hb1⟩
            have hO1 := row_below (hO.alloc _) hb1
            have hL1 := row_below (hL.alloc _) hb1
            have hB1 := bch2 (hbx.alloc hbs _) hb1 (by simp; omega)
            have hs1 := hB1.size
            have cx1 := (((hb1.cell (p := ⟨g, l0.length, none⟩) (by simp; omega)).trans ((below1 wr _).cell (p := ⟨g, l0.length, none⟩) hgl)).trans cx)
            have fz1 : w1.frozen? ⟨g, l0.length, none⟩ = false := hL1.frozenAt l0.length
            obtain ⟨hL1s, hgs⟩ := hL1.stored l0.length (.bool true)
            have hset : (boolC (l0 ++ [x])).set l0.length (.bool true) = boolC (l0 ++ [3]) := by
              rw [boolC_app, boolC_app, List.set_append_right _ _ (by rw [boolC_len]; exact Nat.le_refl _), boolC_len, Nat.sub_self]; rfl
            rw [hset] at hL1s
            have hO1s := ownsRow_keepsT hO1 (KeepsT.grown_row hgs hL1 (by decide))
            have hB1s : Below w.heap.size w (w1.setCell ⟨g, l0.length, none⟩ (.bool true)) := hB1.setCell (hL.lt g rfl).1 _
            have hs1s := hB1s.size
            have hszs : (w1.setCell ⟨g, l0.length, none⟩ (.bool true)).heap.size = w1.heap.size := by simp [World.setCell]
            have hnew : ∀ j u, [Value.int .i64 (l0.length : Int)][j]? = some u → ((w1.setCell ⟨g, l0.length, none⟩ (.bool true)).alloc (.cells #[.int .i64 (l0.length : Int)] 3)).cell? ((⟨w1.heap.size, 0, none⟩ : Addr).add j) = some u := by rw [← hszs]; exact cell1_newS _ _ _
            clear hset
            go_wp2_with (at_builtin; (refine wpList_append_own _ rfl _ _ 34 rfl w.heap.size 3 i0 (.int .i64 0) 1 8 Try.underlying34 hi hz0 hz1 hz2 rfl (by decide) _ _ _ rfl (hO1s.alloc _) ⟨w1.heap.size, 0, none⟩ 1 1 [.int .i64 (l0.length : Int)] rfl rfl hnew (by simp [Value.oneCell']) (by unfold maxLen; omega) (by omega) (by simp; omega) ?_; intro v8 w8 hO8 hg8 hn8; clear hn8; have hL8 := ownsRow_keepsT hL1s ((KeepsT.alloc _ _ (.cells #[.int .i64 (l0.length : Int)] 3)).trans (KeepsT.grown_row hg8 (hO1s.alloc _) (by decide))); have hB8 := (hB1s.alloc hs1s _).grown hg8 (by simp; omega) (fun j e => (hO1s.lt j e).1)))
            go_roundg (n - (k + 1))
            case rel => exact ⟨k + 1, o ++ [l0.length], l0 ++ [3], by omega, by go_num, rfl, HS3, by rw [List.length_append, hol]; rfl, by rw [List.length_append]; simp only [List.length_cons, List.length_nil]; omega, by rw [List.length_append, intC_app]; exact hO8, by rw [List.length_append]; exact hL8, hB8⟩
            case measure => omega
      · rcases List.eq_nil_or_concat l with rfl | ⟨l0, x, rfl⟩
        · obtain ⟨la, lcap, rfl⟩ := row_shapeD hL
          have HE := Lib.hid (depFold_none (rs := rs) (k := k + 1) (by rw [HS.out, hK]; rfl))
          clear HS hK
          go_wp2_with fail
          refine (CT _).mono ?_
          rintro e w1 ⟨rfl, hb1⟩
          have hO1 := row_below (hO.alloc _) hb1
          have hL1 := row_below (hL.alloc _) hb1
          have hB1 := bch2 (hbx.alloc hbs _) hb1 (by simp; omega)
          have hs1 := hB1.size
          go_wp2
          go_ret2
          exact ⟨⟨_, rv2 (by rw [depE_none HE.out]), (fun o h => by rw [HE.out] at h; cases h), fun _ => ⟨_, _, rfl⟩⟩, hB1⟩
        · rw [List.concat_eq_append] at HS hL hll
          have hst := HS.out
          rw [hK, step_last (by omega)] at hst
          have HS2 := Lib.hid hst
          clear hst HS hK
          have hll2 : l0.length + 1 ≤ k := by rw [List.length_append] at hll; simpa using hll
          rw [show (l0 ++ [x]).length = l0.length + 1 by simp] at hL
          obtain ⟨g, lcap, rfl, hcl⟩ := row_someD hL
          have cx : wr.cell? ⟨g, l0.length, none⟩ = some (.bool (x == 3)) := hcl _ _ (by rw [boolC_app, List.getElem?_append_right (by rw [boolC_len]; exact Nat.le_refl _), boolC_len, Nat.sub_self]; rfl)
          have hgl := (hL.lt g rfl).2
          have hcap : (l0.length : Int) ≤ (lcap : Int) := by have := row_cap hL; omega
          have v1 : wrap64 ((l0.length : Int) + 1 - 1) = (l0.length : Int) := by rw [show (l0.length : Int) + 1 - 1 = (l0.length : Int) by omega]; exact IntWalk.wrap64_in _ (by omega)
          have v2 : (l0.length : Int) + 1 - 1 = (l0.length : Int) := by omega
          have v3 : ((l0.length : Int) + 1 == 0) = false := beq_eq_false_iff_ne.2 (by omega)
          have v4 : (l0.length : Int) < (l0.length : Int) + 1 := by omega
          have v5 : (0 : Int) ≤ (l0.length : Int) := by omega
          clear hcl
          have HS3 : Hid (depFold (rs.take (k + 1)) = some (o ++ [l0.length], l0)) := Lib.hid (by rw [HS2.out, if_neg (by omega), if_pos rfl])
          clear HS2
          go_wp2_with fail
          refine (CT _).mono ?_
          rintro e w1 ⟨rfl, hb1⟩
          have hO1 := row_below (hO.alloc _) hb1
          have hL1 := row_below (hL.alloc _) hb1
          have hB1 := bch2 (hbx.alloc hbs _) hb1 (by simp; omega)
          have hs1 := hB1.size
          have hL1p : w1.ownsRow w.heap.size 4 1 (.slice (some ⟨g, 0, none⟩) l0.length lcap) l0.length (boolC l0) := by
            have := hL1
            rw [boolC_app] at this
            exact ownsRow_pop (by rw [boolC_len, Nat.mul_one]) this
          go_wp2_with (at_builtin; (refine wpList_append_own _ rfl _ _ 34 rfl w.heap.size 3 i0 (.int .i64 0) 1 8 Try.underlying34 hi hz0 hz1 hz2 rfl (by decide) _ _ _ rfl (hO1.alloc _) ⟨w1.heap.size, 0, none⟩ 1 1 [.int .i64 (l0.length : Int)] rfl rfl (cell1_newS _ _ _) (by simp [Value.oneCell']) (by unfold maxLen; omega) (by omega) (by simp; omega) ?_; intro v8 w8 hO8 hg8 hn8; clear hn8; have hL8 := ownsRow_keepsT hL1p ((KeepsT.alloc _ _ (.cells #[.int .i64 (l0.length : Int)] 3)).trans (KeepsT.grown_row hg8 (hO1.alloc _) (by decide))); have hB8 := (hB1.alloc hs1 _).grown hg8 (by simp; omega) (fun j e => (hO1.lt j e).1)))
          go_roundg (n - (k + 1))
          case rel => exact ⟨k + 1, o ++ [l0.length], l0, by omega, by go_num, rfl, HS3, by rw [List.length_append, hol]; rfl, by omega, by rw [List.length_append, intC_app]; exact hO8, hL8, hB8⟩
          case measure => omega
    · obtain rfl : k = n := by omega
      have HD2 := Lib.hid (show depFold rs = some (o, l) by rw [← HD.out, List.take_of_length_le (by rw [HN.out]; exact Nat.le_refl _)])
      obtain ⟨la, lcap, rfl⟩ := row_shapeD hL
      cases l with
      | nil =>
        have HE := Lib.hid (depS_done HD2.out)
        go_wp2
        go_ret2
        exact ⟨⟨_, rv2 (by rw [depE_some HE.out]), (fun o' h => by rw [HE.out] at h; cases h; exact hO), fun h => by rw [HE.out] at h; cases h⟩, hbx⟩
      | cons x l =>
        have HE := Lib.hid (depS_open HD2.out (by simp))
        have hlp : (0 : Int) < ((x :: l).length : Int) := by rw [List.length_cons]; omega
        go_wp2
        go_ret2
        exact ⟨⟨_, rv2 (by rw [depE_none HE.out]), (fun o h => by rw [HE.out] at h; cases h), fun _ => ⟨_, _, rfl⟩⟩, hbx⟩

end Go.Proofs.Ytpomcdolpmbhdaa
