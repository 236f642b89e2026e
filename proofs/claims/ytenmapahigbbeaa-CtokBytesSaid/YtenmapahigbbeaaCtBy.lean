/- The law CtokBytes. -/
import Derived.Test.YtenmapahigbbeaaCtX
import Derived.Test.YtenmapahigbbeaaCtA
import Derived.Deep.RegionHeld3
import Derived.Deep.DeepCutAuto
import Derived.Deep.RegionWith
namespace Go.Proofs.Ytenmapahigbbeaa
open Go.RowKit Go.Shelf

theorem cellA_lt {W : World} {a : Addr} {u : Value} (h : W.cell? a = some u) : a.block < W.heap.size := by
  unfold World.cell? at h
  split at h
  · rename_i he
    exact (Array.getElem?_eq_some_iff.1 he).1
  · cases h
/-- Bytes as cells. -/
def u8Cell (c : UInt8) : Value := .int .u8 c.toNat
def u8Cells (l : List UInt8) : List Value := l.map u8Cell
theorem u8Cells_app (l m : List UInt8) : u8Cells (l ++ m) = u8Cells l ++ u8Cells m := by simp [u8Cells]
theorem u8Cells_len (l : List UInt8) : (u8Cells l).length = l.length := by simp [u8Cells]
theorem octC_int (b : UInt8) : u8Cells (octC b) = [.int .u8 92, .int .u8 (48 + (b.toNat : Int) / 64), .int .u8 (48 + (b.toNat : Int) / 8 % 8), .int .u8 (48 + (b.toNat : Int) % 8)] := by
  have h : ∀ n, n < 256 → (fun b : UInt8 => (48 + b / 64).toNat = 48 + b.toNat / 64 ∧ (48 + b / 8 % 8).toNat = 48 + b.toNat / 8 % 8 ∧ (48 + b % 8).toNat = 48 + b.toNat % 8) (UInt8.ofNat n) := by decide +kernel
  have := h b.toNat b.toNat_lt
  rw [UInt8.ofNat_toNat] at this
  obtain ⟨h1, h2, h3⟩ := this
  simp only [octC, u8Cells, u8Cell, List.map_cons, List.map_nil, h1, h2, h3]
  simp
theorem octsC_snoc (l : List UInt8) (b : UInt8) : octsC (l ++ [b]) = octsC l ++ octC b := by simp [octsC]
theorem octsC_len (l : List UInt8) : (octsC l).length = 4 * l.length := by
  induction l with
  | nil => rfl
  | cons b l ih =>
    have e : octsC (b :: l) = octC b ++ octsC l := rfl
    rw [e, List.length_append, ih, List.length_cons]
    simp [octC]; omega

/-- An operation that only reads, taken ahead of the others; the slot that it writes is told. -/
theorem take_op8 {P : Program} {md : Region.Mode} {ops : Array Oper} {Q : Exit → Act → World → Prop} {S : World → Prop} {i d : Nat} {oi : Oper} {v : Value} {fuel : Nat} {listed : Array Bool} {tm : Array Value} {df : List Deferred} {w : World} (hi : ops[i]? = some oi) (hd : oi.dst = some d)
    (hs : Region.noSelect ops = true) (hf : Region.free md ops listed i = true) (hr : (Region.ready md ops listed).contains i = true)
    (hQ : ∀ c a w, Q (.panic c) (a.put oi.dst v) w → Q (.panic c) a w) (hy : YieldsIf P ops S oi v { tmps := tm, defers := df }) (hS : S w)
    (h : wpAnyH P md ops Q S fuel (listed.setIfInBounds i true) { tmps := tm.setIfInBounds d v, defers := df } w) : wpAnyH P md ops Q S (fuel + 1) listed { tmps := tm, defers := df } w := by
  refine wpAnyH_take hi hs hf hr hQ hy hS ?_
  rw [hd]
  exact h

theorem cell_four_new (w : World) (a b c d : Value) (t : TypeId) : ∀ j u, [a, b, c, d][j]? = some u → (w.alloc (.cells #[a, b, c, d] t)).cell? ((⟨w.heap.size, 0, none⟩ : Addr).add j) = some u := by
  intro j u hj
  match j, hj with
  | 0, hj => simp at hj; subst hj; simp [Addr.add]
  | 1, hj => simp at hj; subst hj; simp [Addr.add]
  | 2, hj => simp at hj; subst hj; simp [Addr.add]
  | 3, hj => simp at hj; subst hj; simp [Addr.add]
  | j + 4, hj => simp at hj

/-- A row of bytes, as a text. -/
theorem row_conv {W : World} {base k cap : Nat} {a : Option Addr} {L : List UInt8} (h : W.ownsRow base 5 1 (.slice a (4 * k + 1 + 1) cap) (4 * k + 1 + 1) (u8Cells (34 :: L) ++ [.int .u8 34])) :
    (convert 54 9 (.slice a (4 * k + 1 + 1) cap)).run Try.prog W = .ok (.string ⟨(34 :: (L ++ [34])).toArray⟩) W := by
  have hlen := h.1
  rw [List.length_append, u8Cells_len, List.length_cons] at hlen
  simp only [List.length_cons, List.length_nil] at hlen
  obtain ⟨g, e, _, hc⟩ := row_pos (by omega) h
  subst e
  have hcs : u8Cells (34 :: L) ++ [.int .u8 34] = u8Cells (34 :: (L ++ [34])) := by
    rw [show (34 : UInt8) :: (L ++ [34]) = (34 :: L) ++ [34] from rfl, u8Cells_app]; rfl
  rw [hcs] at hc
  have := run_convert_bytes_back (P := Try.prog) W _ _ _ ⟨g, 0, none⟩ cap (34 :: (L ++ [34])) Try.underlying54 Try.underlying5 Try.underlying9 (fun j hj => by
    have e : (u8Cells (34 :: (L ++ [34])))[j]? = some (u8Cell (34 :: (L ++ [34]))[j]) := by
      unfold u8Cells
      rw [List.getElem?_map, List.getElem?_eq_getElem hj]; rfl
    have := hc j _ e
    rcases j with _ | j
    · exact this
    · simpa [Addr.add, u8Cell] using this)
  rw [show (34 :: (L ++ [34])).length = 4 * k + 1 + 1 by simp; omega] at this
  exact this

theorem infoU8 : (Try.prog.info? 5).map (fun i => (i.zero, i.size, i.bytes)) = some (some (.int .u8 0), 1, 1) := by kernel_rfl

set_option maxRecDepth 100000 in
set_option maxHeartbeats 4000000 in
theorem bytes_any (bs : List UInt8) (n cap : Nat) (x : Addr) (w : World) (hn : bs.length = n) (hnc : n ≤ cap) (hcm : cap ≤ maxLen) (hT : ∀ i c, bs[i]? = some c → w.cell? (x.add i) = some (u8Cell c)) (hL : LibVar w) :
    Calls Try.prog 7 #[.slice (some x) n cap] w fun e w' => e = .returned (.bool true) ∧ Below w.heap.size w w' := by
  have A := alive4_any w hL
  unfold maxLen at hcm
  by_cases h5 : 5000 < n
  · have i1 : (5000 : Int) < (n : Int) := by omega
    clear hT hn
    go_enter Try.func7, Try.ntmps7
    go_wp2_with fail
    refine A.mono ?_
    rintro e w1 ⟨rfl, hb1⟩
    go_wp2
    go_ret
    exact ⟨rfl, hb1⟩
  · have i1 : ¬ (5000 : Int) < (n : Int) := by omega
    obtain ⟨i0, hi, hz0, hz1, hz2⟩ := info_parts infoU8
    have HN := Lib.hid hn
    have HT := Lib.hid hT
    clear hn hT
    go_enter Try.func7, Try.ntmps7
    go_wp2_with fail
    refine A.mono ?_
    rintro e w1 ⟨rfl, hb1⟩
    go_wp2_with fail
    have hs1 := hb1.size
    have hB1 : Below w.heap.size w (w1.alloc (.cells #[.int .u8 34] 5)) := hb1.alloc hs1 _
    go_loopg [4, 5] n (fun m t i wx => ∃ k : Nat, k ≤ n ∧ i = .int .i64 k ∧ m = n - k ∧ wx.ownsRow w1.heap.size 5 1 t (4 * k + 1) (u8Cells (34 :: octsC (bs.take k))) ∧ Below w1.heap.size w1 wx)
    case atStart => exact ⟨0, Nat.zero_le _, rfl, rfl, World.ownsRow_lit w1 #[.int .u8 34] 1 (Nat.le_refl _) (by unfold maxLen; decide) rfl, below1 w1 _⟩
    case round =>
      obtain ⟨k, hk, rfl, rfl, hrow, hbx⟩ := hrel
      obtain ⟨a, cp, rfl⟩ := row_shape hrow
      have hbs := hbx.size
      by_cases hlt : k < n
      · obtain ⟨b, hb⟩ : ∃ b, bs[k]? = some b := ⟨_, List.getElem?_eq_getElem (by rw [HN.out]; exact hlt)⟩
        have hbT := hb1.trans (hbx.mono hs1)
        have c1 := HT.out k b hb
        have HC : Hid (∀ W, Below w.heap.size w W → W.cell? (x.add k) = some (.int .u8 b.toNat)) := Lib.hid (fun W h => (h.cell (p := x.add k) (cellA_lt c1)).trans c1)
        have c0 := HC.out _ (below_drewN hbT 1)
        have HK : Hid (u8Cells (34 :: octsC (bs.take (k + 1))) = u8Cells (34 :: octsC (bs.take k)) ++ u8Cells (octC b)) := Lib.hid (by
          rw [List.take_add_one, hb, ← u8Cells_app, List.cons_append]
          show u8Cells (34 :: octsC (bs.take k ++ [b])) = _
          rw [octsC_snoc])
        have hbn := b.toNat_lt
        have i2 : (k : Int) < (n : Int) := by omega
        have i3 : (0 : Int) ≤ (k : Int) := by omega
        clear c1 hb
        go_upto_region 8 with fail
        refine wp_region_held_drew (S := (fun W : World => W.cell? (x.add k) = some (.int .u8 b.toNat))) (by kernel_rfl) c0 (fun hS => ?_)
        refine take_op8 (i := 0) (d := 25) (v := .slice a (4 * k + 1) cp) rfl rfl (by kernel_rfl) (by kernel_rfl) (by kernel_rfl) (fun _ _ _ h => h) (Or.inl ⟨by rfl, ?_⟩) hS ?_
        · rintro W x0
          go_simp
          try first | exact IntWalk.u8_in _ (by omega) | exact Int.tmod_eq_emod_of_nonneg (by omega)
        simp only [List.setIfInBounds_toArray, List.set_cons_zero, List.set_cons_succ]
        refine take_op8 (i := 1) (d := 26) (v := .slice (some x) n cap) rfl rfl (by kernel_rfl) (by kernel_rfl) (by kernel_rfl) (fun _ _ _ h => h) (Or.inl ⟨by rfl, ?_⟩) hS ?_
        · rintro W x0
          go_simp
          try first | exact IntWalk.u8_in _ (by omega) | exact Int.tmod_eq_emod_of_nonneg (by omega)
        simp only [List.setIfInBounds_toArray, List.set_cons_zero, List.set_cons_succ]
        refine take_op8 (i := 2) (d := 27) (v := .int .i64 k) rfl rfl (by kernel_rfl) (by kernel_rfl) (by kernel_rfl) (fun _ _ _ h => h) (Or.inl ⟨by rfl, ?_⟩) hS ?_
        · rintro W x0
          go_simp
          try first | exact IntWalk.u8_in _ (by omega) | exact Int.tmod_eq_emod_of_nonneg (by omega)
        simp only [List.setIfInBounds_toArray, List.set_cons_zero, List.set_cons_succ]
        refine take_op8 (i := 3) (d := 28) (v := .pointer (some (x.add k))) rfl rfl (by kernel_rfl) (by kernel_rfl) (by kernel_rfl) (fun _ _ _ h => h) (Or.inl ⟨by rfl, ?_⟩) hS ?_
        · rintro W x0
          go_simp
          try first | exact IntWalk.u8_in _ (by omega) | exact Int.tmod_eq_emod_of_nonneg (by omega)
        simp only [List.setIfInBounds_toArray, List.set_cons_zero, List.set_cons_succ]
        refine take_op8 (i := 4) (d := 29) (v := .int .u8 b.toNat) rfl rfl (by kernel_rfl) (by kernel_rfl) (by kernel_rfl) (fun _ _ _ h => h) (Or.inl ⟨by rfl, ?_⟩) hS ?_
        · rintro W x0
          go_simp
          try first | exact IntWalk.u8_in _ (by omega) | exact Int.tmod_eq_emod_of_nonneg (by omega)
        simp only [List.setIfInBounds_toArray, List.set_cons_zero, List.set_cons_succ]
        refine take_op8 (i := 5) (d := 30) (v := .int .u8 ((b.toNat : Int) / 64)) rfl rfl (by kernel_rfl) (by kernel_rfl) (by kernel_rfl) (fun _ _ _ h => h) (Or.inl ⟨by rfl, ?_⟩) hS ?_
        · rintro W x0
          go_simp
          try first | exact IntWalk.u8_in _ (by omega) | exact Int.tmod_eq_emod_of_nonneg (by omega)
        simp only [List.setIfInBounds_toArray, List.set_cons_zero, List.set_cons_succ]
        refine take_op8 (i := 6) (d := 31) (v := .int .u8 (48 + (b.toNat : Int) / 64)) rfl rfl (by kernel_rfl) (by kernel_rfl) (by kernel_rfl) (fun _ _ _ h => h) (Or.inl ⟨by rfl, ?_⟩) hS ?_
        · rintro W x0
          go_simp
          try first | exact IntWalk.u8_in _ (by omega) | exact Int.tmod_eq_emod_of_nonneg (by omega)
        simp only [List.setIfInBounds_toArray, List.set_cons_zero, List.set_cons_succ]
        refine take_op8 (i := 7) (d := 32) (v := .slice (some x) n cap) rfl rfl (by kernel_rfl) (by kernel_rfl) (by kernel_rfl) (fun _ _ _ h => h) (Or.inl ⟨by rfl, ?_⟩) hS ?_
        · rintro W x0
          go_simp
          try first | exact IntWalk.u8_in _ (by omega) | exact Int.tmod_eq_emod_of_nonneg (by omega)
        simp only [List.setIfInBounds_toArray, List.set_cons_zero, List.set_cons_succ]
        refine take_op8 (i := 8) (d := 33) (v := .int .i64 k) rfl rfl (by kernel_rfl) (by kernel_rfl) (by kernel_rfl) (fun _ _ _ h => h) (Or.inl ⟨by rfl, ?_⟩) hS ?_
        · rintro W x0
          go_simp
          try first | exact IntWalk.u8_in _ (by omega) | exact Int.tmod_eq_emod_of_nonneg (by omega)
        simp only [List.setIfInBounds_toArray, List.set_cons_zero, List.set_cons_succ]
        refine take_op8 (i := 9) (d := 34) (v := .pointer (some (x.add k))) rfl rfl (by kernel_rfl) (by kernel_rfl) (by kernel_rfl) (fun _ _ _ h => h) (Or.inl ⟨by rfl, ?_⟩) hS ?_
        · rintro W x0
          go_simp
          try first | exact IntWalk.u8_in _ (by omega) | exact Int.tmod_eq_emod_of_nonneg (by omega)
        simp only [List.setIfInBounds_toArray, List.set_cons_zero, List.set_cons_succ]
        refine take_op8 (i := 10) (d := 35) (v := .int .u8 b.toNat) rfl rfl (by kernel_rfl) (by kernel_rfl) (by kernel_rfl) (fun _ _ _ h => h) (Or.inl ⟨by rfl, ?_⟩) hS ?_
        · rintro W x0
          go_simp
          try first | exact IntWalk.u8_in _ (by omega) | exact Int.tmod_eq_emod_of_nonneg (by omega)
        simp only [List.setIfInBounds_toArray, List.set_cons_zero, List.set_cons_succ]
        refine take_op8 (i := 11) (d := 36) (v := .int .u8 ((b.toNat : Int) / 8)) rfl rfl (by kernel_rfl) (by kernel_rfl) (by kernel_rfl) (fun _ _ _ h => h) (Or.inl ⟨by rfl, ?_⟩) hS ?_
        · rintro W x0
          go_simp
          try first | exact IntWalk.u8_in _ (by omega) | exact Int.tmod_eq_emod_of_nonneg (by omega)
        simp only [List.setIfInBounds_toArray, List.set_cons_zero, List.set_cons_succ]
        refine take_op8 (i := 12) (d := 37) (v := .int .u8 ((b.toNat : Int) / 8 % 8)) rfl rfl (by kernel_rfl) (by kernel_rfl) (by kernel_rfl) (fun _ _ _ h => h) (Or.inl ⟨by rfl, ?_⟩) hS ?_
        · rintro W x0
          go_simp
          try first | exact IntWalk.u8_in _ (by omega) | exact Int.tmod_eq_emod_of_nonneg (by omega)
        simp only [List.setIfInBounds_toArray, List.set_cons_zero, List.set_cons_succ]
        refine take_op8 (i := 13) (d := 38) (v := .int .u8 (48 + (b.toNat : Int) / 8 % 8)) rfl rfl (by kernel_rfl) (by kernel_rfl) (by kernel_rfl) (fun _ _ _ h => h) (Or.inl ⟨by rfl, ?_⟩) hS ?_
        · rintro W x0
          go_simp
          try first | exact IntWalk.u8_in _ (by omega) | exact Int.tmod_eq_emod_of_nonneg (by omega)
        simp only [List.setIfInBounds_toArray, List.set_cons_zero, List.set_cons_succ]
        refine take_op8 (i := 14) (d := 39) (v := .slice (some x) n cap) rfl rfl (by kernel_rfl) (by kernel_rfl) (by kernel_rfl) (fun _ _ _ h => h) (Or.inl ⟨by rfl, ?_⟩) hS ?_
        · rintro W x0
          go_simp
          try first | exact IntWalk.u8_in _ (by omega) | exact Int.tmod_eq_emod_of_nonneg (by omega)
        simp only [List.setIfInBounds_toArray, List.set_cons_zero, List.set_cons_succ]
        refine take_op8 (i := 15) (d := 40) (v := .int .i64 k) rfl rfl (by kernel_rfl) (by kernel_rfl) (by kernel_rfl) (fun _ _ _ h => h) (Or.inl ⟨by rfl, ?_⟩) hS ?_
        · rintro W x0
          go_simp
          try first | exact IntWalk.u8_in _ (by omega) | exact Int.tmod_eq_emod_of_nonneg (by omega)
        simp only [List.setIfInBounds_toArray, List.set_cons_zero, List.set_cons_succ]
        refine take_op8 (i := 16) (d := 41) (v := .pointer (some (x.add k))) rfl rfl (by kernel_rfl) (by kernel_rfl) (by kernel_rfl) (fun _ _ _ h => h) (Or.inl ⟨by rfl, ?_⟩) hS ?_
        · rintro W x0
          go_simp
          try first | exact IntWalk.u8_in _ (by omega) | exact Int.tmod_eq_emod_of_nonneg (by omega)
        simp only [List.setIfInBounds_toArray, List.set_cons_zero, List.set_cons_succ]
        refine take_op8 (i := 17) (d := 42) (v := .int .u8 b.toNat) rfl rfl (by kernel_rfl) (by kernel_rfl) (by kernel_rfl) (fun _ _ _ h => h) (Or.inl ⟨by rfl, ?_⟩) hS ?_
        · rintro W x0
          go_simp
          try first | exact IntWalk.u8_in _ (by omega) | exact Int.tmod_eq_emod_of_nonneg (by omega)
        simp only [List.setIfInBounds_toArray, List.set_cons_zero, List.set_cons_succ]
        refine take_op8 (i := 18) (d := 43) (v := .int .u8 ((b.toNat : Int) % 8)) rfl rfl (by kernel_rfl) (by kernel_rfl) (by kernel_rfl) (fun _ _ _ h => h) (Or.inl ⟨by rfl, ?_⟩) hS ?_
        · rintro W x0
          go_simp
          try first | exact IntWalk.u8_in _ (by omega) | exact Int.tmod_eq_emod_of_nonneg (by omega)
        simp only [List.setIfInBounds_toArray, List.set_cons_zero, List.set_cons_succ]
        refine take_op8 (i := 19) (d := 44) (v := .int .u8 (48 + (b.toNat : Int) % 8)) rfl rfl (by kernel_rfl) (by kernel_rfl) (by kernel_rfl) (fun _ _ _ h => h) (Or.inl ⟨by rfl, ?_⟩) hS ?_
        · rintro W x0
          go_simp
          try first | exact IntWalk.u8_in _ (by omega) | exact Int.tmod_eq_emod_of_nonneg (by omega)
        simp only [List.setIfInBounds_toArray, List.set_cons_zero, List.set_cons_succ]
        refine wpAnyH_ready (rs := [20]) (by kernel_rfl) (by simp) ?_
        refine AllReadyH.cons rfl (fun K hK => ?_) AllReadyH.nil
        go_simp
        refine hK.out _ _ (HC.out _ ((below_drewN hbT 1).alloc (below_drewN hbT 1).size _)) (fun hS => ?_)
        clear hK K
        refine wpAnyH_ready (rs := [21]) (by kernel_rfl) (by simp) ?_
        refine AllReadyH.cons rfl (fun K hK => ?_) AllReadyH.nil
        rw [if_pos (by rfl)]
        refine wp_append_own _ _ _ 54 rfl w1.heap.size 5 i0 (.int .u8 0) 1 1 Try.underlying54 hi hz0 hz1 hz2 rfl (by decide) _ _ _ rfl (show (wr.drew.alloc _).ownsRow w1.heap.size 5 1 (.slice a (4 * k + 1) cp) (4 * k + 1) (u8Cells (34 :: octsC (bs.take k))) from World.ownsRow.alloc (show wr.drew.ownsRow w1.heap.size 5 1 (.slice a (4 * k + 1) cp) (4 * k + 1) (u8Cells (34 :: octsC (bs.take k))) from hrow) _) ⟨wr.drew.heap.size, 0, none⟩ 4 4 (u8Cells (octC b)) rfl rfl (by rw [octC_int]; exact cell_four_new _ _ _ _ _ _) (by rw [octC_int]; simp [Value.oneCell']) (by unfold maxLen; omega) (by omega) (by simp; omega) ?_
        intro v' w3 hown hgrow _
        have hL4 := hrow.lt
        have hB3 : Below w1.heap.size w1 w3 := ((below_drewN hbx 1).alloc (below_drewN hbx 1).size _).grown hgrow (by simp; omega) (fun j e => (hL4 j e).1)
        refine hK.out _ _ (HC.out _ (hb1.trans (hB3.mono hs1))) (fun hS => ?_)
        clear hK K
        simp only [Act.put, List.setIfInBounds_toArray, List.set_cons_zero, List.set_cons_succ]
        refine take_op8 (i := 22) (d := 4) (v := v') rfl rfl (by kernel_rfl) (by kernel_rfl) (by kernel_rfl) (fun _ _ _ h => h) (Or.inl ⟨by rfl, ?_⟩) hS ?_
        · rintro W x0
          go_simp
        simp only [List.setIfInBounds_toArray, List.set_cons_zero, List.set_cons_succ]
        refine wpAnyH_done (by kernel_rfl) ?_ _
        clear hS
        go_wp2
        go_roundg (n - (k + 1))
        case rel =>
          refine ⟨k + 1, by omega, by go_num, rfl, ?_, hB3⟩
          rw [HK.out]
          exact hown
        case measure => omega
      · obtain rfl : k = n := by omega
        have i2 : ¬ (k : Int) < (k : Int) := by omega
        have HA : Hid (bs.take k = bs) := Lib.hid (List.take_of_length_le (by rw [HN.out]; exact Nat.le_refl _))
        rw [HA.out] at hrow
        have hL4 := hrow.lt
        go_wp2_with (at_builtin; refine wpList_append_own _ rfl _ _ 54 rfl w1.heap.size 5 i0 (.int .u8 0) 1 1 Try.underlying54 hi hz0 hz1 hz2 rfl (by decide) _ _ _ rfl (hrow.alloc _) ⟨wr.heap.size, 0, none⟩ 1 1 [.int .u8 34] rfl rfl (cell_one_new _ _ _) (by simp [Value.oneCell']) (by unfold maxLen; omega) (by omega) (by simp; omega) ?_; intro v' w3 hown hgrow hn3; clear hn3; have hB3 : Below w1.heap.size w1 w3 := (hbx.alloc hbs (.cells #[.int .u8 34] 5)).grown hgrow (by simp; omega) (fun j e => (hL4 j e).1); obtain ⟨a5, cp5, rfl⟩ := row_shape hown; have hcv := row_conv hown)
        have hBw3 := hb1.trans (hB3.mono hs1)
        have hT0 : strC ⟨(34 :: (octsC bs ++ [34])).toArray⟩ = some (bs.map UInt8.toNat) := str_octs rfl
        have C := Str_any ⟨(34 :: (octsC bs ++ [34])).toArray⟩ w3 (by
          rw [← size_list]
          show (34 :: (octsC bs ++ [34])).length ≤ _
          rw [List.length_cons, List.length_append, octsC_len, HN.out]
          simp only [List.length_cons, List.length_nil]
          omega) (libVar_below hBw3 hL)
        unfold StrR at C
        rw [hT0] at C
        refine C.mono ?_
        rintro e w4 ⟨⟨v4, rfl, hr4⟩, hb4⟩
        have hB4 := hBw3.trans (hb4.mono hBw3.size)
        rw [List.length_map, HN.out] at hr4
        obtain ⟨a6, c6, rfl⟩ := row_shape hr4
        have HR4 : Hid (0 < k → ∃ g, a6 = some ⟨g, 0, none⟩ ∧ g < w4.heap.size ∧ ∀ j u, (intCells (bs.map UInt8.toNat))[j]? = some u → w4.cell? ⟨g, j, none⟩ = some u) := Lib.hid (fun h => row_pos h hr4)
        clear hT0 C hr4 hown hgrow hL4 hrow HA hbx hcv i2
        go_wp2
        go_loopw [8] (fun i wx => ∃ j : Nat, j ≤ k ∧ i = .int .i64 j ∧ Below w4.heap.size w4 wx) (fun i _ => k - (intOf i).toNat)
        case atStart => exact ⟨0, Nat.zero_le _, rfl, Below.refl _ _⟩
        case round =>
          obtain ⟨j, hj, rfl, hbz⟩ := hrel
          have hBz := hB4.trans (hbz.mono hB4.size)
          by_cases hlt2 : j < k
          · obtain ⟨b, hb⟩ : ∃ b, bs[j]? = some b := ⟨_, List.getElem?_eq_getElem (by rw [HN.out]; exact hlt2)⟩
            have c1 := HT.out j b hb
            have c0 : wr.cell? (x.add j) = some (.int .u8 b.toNat) := (hBz.cell (p := x.add j) (cellA_lt c1)).trans c1
            obtain ⟨g, rfl, hg, hc⟩ := HR4.out (by omega)
            have d1 := hc j (intCell b.toNat) (by unfold intCells; rw [List.getElem?_map, List.getElem?_map, hb]; rfl)
            have d0 : wr.cell? ⟨g, j, none⟩ = some (.int .i64 b.toNat) := (hbz.cell (p := ⟨g, j, none⟩) hg).trans d1
            have i2 : (j : Int) < (k : Int) := by omega
            have i3 : (0 : Int) ≤ (j : Int) := by omega
            have hbn := b.toNat_lt
            have e0 : ((b.toNat : Int) != wrap64 (b.toNat : Int)) = false := by rw [IntWalk.wrap64_in _ (by omega)]; simp
            clear c1 d1 hc hb
            go_wp2
            go_big_quiet (fail)
            go_wp2
            refine ⟨⟨j + 1, by omega, by go_num, below_drewN hbz _⟩, ?_⟩
            simp [intOf]; omega
          · have i2 : ¬ (j : Int) < (k : Int) := by omega
            go_wp2
            go_ret
            exact ⟨rfl, hBz⟩

set_option maxRecDepth 100000 in
set_option maxHeartbeats 4000000 in
theorem bytes_nil (w : World) (hL : LibVar w) :
    Calls Try.prog 7 #[.slice none 0 0] w fun e w' => e = .returned (.bool true) ∧ Below w.heap.size w w' := by
  obtain ⟨i0, hi, hz0, hz1, hz2⟩ := info_parts infoU8
  have A := alive4_any w hL
  go_enter Try.func7, Try.ntmps7
  go_wp2_with fail
  refine A.mono ?_
  rintro e w1 ⟨rfl, hb1⟩
  have hs1 := hb1.size
  go_wp2
  go_loopg [4, 5] 0 (fun m t i wx => i = .int .i64 0 ∧ m = 0 ∧ wx.ownsRow w1.heap.size 5 1 t (4 * 0 + 1) (u8Cells (34 :: octsC [])) ∧ Below w1.heap.size w1 wx)
  case atStart => exact ⟨rfl, rfl, World.ownsRow_lit w1 #[.int .u8 34] 1 (Nat.le_refl _) (by unfold maxLen; decide) rfl, below1 w1 _⟩
  case round =>
    obtain ⟨rfl, rfl, hrow, hbx⟩ := hrel
    obtain ⟨a, cp, rfl⟩ := row_shape hrow
    have hbs := hbx.size
    have hL4 := hrow.lt
    go_wp2_with (at_builtin; refine wpList_append_own _ rfl _ _ 54 rfl w1.heap.size 5 i0 (.int .u8 0) 1 1 Try.underlying54 hi hz0 hz1 hz2 rfl (by decide) _ _ _ rfl (hrow.alloc _) ⟨wr.heap.size, 0, none⟩ 1 1 [.int .u8 34] rfl rfl (cell_one_new _ _ _) (by simp [Value.oneCell']) (by unfold maxLen; omega) (by omega) (by simp; omega) ?_; intro v' w3 hown hgrow hn3; clear hn3; have hB3 : Below w1.heap.size w1 w3 := (hbx.alloc hbs (.cells #[.int .u8 34] 5)).grown hgrow (by simp; omega) (fun j e => (hL4 j e).1); obtain ⟨a5, cp5, rfl⟩ := row_shape hown; have hcv := row_conv (k := 0) hown)
    have hBw3 := hb1.trans (hB3.mono hs1)
    have hT0 : strC ⟨(34 :: (octsC [] ++ [34])).toArray⟩ = some ([].map UInt8.toNat) := str_octs rfl
    have C := Str_any ⟨(34 :: (octsC [] ++ [34])).toArray⟩ w3 (by decide) (libVar_below hBw3 hL)
    unfold StrR at C
    rw [hT0] at C
    refine C.mono ?_
    rintro e w4 ⟨⟨v4, rfl, hr4⟩, hb4⟩
    have hB4 := hBw3.trans (hb4.mono hBw3.size)
    obtain ⟨a6, c6, rfl⟩ := row_shape hr4
    clear hT0 C hr4 hown hgrow hL4 hrow hbx hcv
    go_wp2
    go_loopw [8] (fun i wx => i = .int .i64 0 ∧ wx = w4) (fun i _ => 0)
    case atStart => exact ⟨rfl, rfl⟩
    case round =>
      obtain ⟨rfl, rfl⟩ := hrel
      go_wp2
      go_ret
      exact ⟨rfl, hB4⟩

end Go.Proofs.Ytenmapahigbbeaa
