/- regletref02.Scan: the document's tokens of a text, with their places in it. -/
import Derived.Test.YtaodjipnffgihaaGreatRefT
import Derived.Test.YtaodjipnffgihaaGreatMzQ
import Derived.Test.YtaodjipnffgihaaGreatMzM
namespace Go.Proofs.YtaodjipnffgihaaGreat
open Go.RowKit Go.Shelf

/-- The first k tokens with their places in the text, the others with those in the logical text. -/
def mixY (cs : List Part) (ys : List Yd) (k : Nat) : List Yd := (ys.take k).map (srcY cs) ++ ys.drop k
theorem mixY_len (cs : List Part) (ys : List Yd) (k : Nat) : (mixY cs ys k).length = ys.length := by
  unfold mixY
  rw [List.length_append, List.length_map, List.length_take, List.length_drop]; omega
theorem mixY_get {cs : List Part} {ys : List Yd} {k : Nat} {y : Yd} (h : ys[k]? = some y) : (mixY cs ys k)[k]? = some y := by
  have hk := (List.getElem?_eq_some_iff.1 h).1
  unfold mixY
  rw [List.getElem?_append_right (by rw [List.length_map, List.length_take]; omega), List.length_map, List.length_take, List.getElem?_drop, show k + (k - min k ys.length) = k by omega]
  exact h
theorem ydCells_app (a b : List Yd) : ydCells (a ++ b) = ydCells a ++ ydCells b := by simp [ydCells]
theorem ydCells_len2 (a : List Yd) : (ydCells a).length = a.length * 5 := by
  induction a with
  | nil => rfl
  | cons t ts ih => simp only [ydCells, List.flatMap_cons, List.length_append, List.length_cons] at ih ⊢; rw [ih]; simp; omega
theorem mixY_set {cs : List Part} {ys : List Yd} {k : Nat} {y : Yd} (h : ys[k]? = some y) : ((ydCells (mixY cs ys k)).set (k * 5 + 2) (.int .i64 (srcY cs y).a)).set (k * 5 + 3) (.int .i64 (srcY cs y).e) = ydCells (mixY cs ys (k + 1)) := by
  have hk := (List.getElem?_eq_some_iff.1 h).1
  have hl : ((ys.take k).map (srcY cs)).length = k := by rw [List.length_map, List.length_take]; omega
  have hd : ys.drop k = y :: ys.drop (k + 1) := by
    rw [List.drop_eq_getElem_cons hk]
    rw [List.getElem?_eq_getElem hk] at h
    rw [Option.some.inj h]
  unfold mixY
  rw [hd, List.take_add_one, h, List.map_append, ydCells_app, ydCells_app, ydCells_app]
  have hc : ydCells (y :: ys.drop (k + 1)) = ydCell y ++ ydCells (ys.drop (k + 1)) := by simp [ydCells, ydCell]
  have hlen := ydCells_len2 ((ys.take k).map (srcY cs))
  rw [hl] at hlen
  have hs : ydCells (List.map (srcY cs) (some y).toList) = ydCell (srcY cs y) := by simp [ydCells, ydCell]
  rw [hc, hs]
  rw [List.set_append_right _ _ (by rw [hlen]; omega), List.set_append_right _ _ (by rw [hlen]; omega), hlen, show k * 5 + 2 - k * 5 = 2 by omega, show k * 5 + 3 - k * 5 = 3 by omega, List.append_assoc]
  rfl
theorem mixY_end (cs : List Part) (ys : List Yd) : mixY cs ys ys.length = ys.map (srcY cs) := by
  unfold mixY; rw [List.take_length, List.drop_length, List.append_nil]
theorem yd_fit {L : ByteArray} {y : Yd} (h : y ∈ toksY L) : y.a < y.e ∧ y.e ≤ L.size := by
  obtain ⟨t, ht, rfl⟩ := List.mem_map.1 h
  have hw := toks_within (l := L.data.toList) _ 0 0 (Nat.le_refl _) (Nat.zero_le _) t ht
  exact ⟨hw.2.1, hw.2.2.1⟩
theorem chAt_getY {cs : List Part} {k : Nat} (h : k < cs.length) : cs[k]? = some (chAt cs k) := by
  unfold chAt
  rw [List.getD_eq_getElem?_getD, List.getElem?_eq_getElem h, Option.getD_some]
theorem yds_cell {W : World} {base n cap g : Nat} {ys : List Yd} (h : W.ownsRow base 83 5 (.slice (some ⟨g, 0, none⟩) n cap) n (ydCells ys)) {k : Nat} {y : Yd} (hy : ys[k]? = some y) (j : Nat) (hj : j < 5) : W.cell? ⟨g, k * 5 + j, none⟩ = (ydCell y)[j]? := by
  have hn : 0 < n := by
    have h1 := h.1
    have hk := (List.getElem?_eq_some_iff.1 hy).1
    rw [ydCells_len2] at h1
    omega
  obtain ⟨g', e, _, hc⟩ := row_pos hn h
  simp only [Option.some.injEq, Addr.mk.injEq, and_true] at e
  subst e
  have h2 := ydCells_get hy j hj
  cases hu : (ydCell y)[j]? with
  | none =>
    rw [List.getElem?_eq_none_iff] at hu
    simp [ydCell] at hu
    omega
  | some u => rw [hu] at h2; exact hc _ u h2

theorem row_facts' {W : World} {B : Nat} {a b c : Value} (h : W.heap[B]? = some (.cells #[a, b, c] 81 (0, 0))) : W.cell? ⟨B, 0, none⟩ = some a ∧ W.cell? ⟨B, 1, none⟩ = some b ∧ W.cell? ⟨B, 2, none⟩ = some c ∧ True := by
  refine ⟨?_, ?_, ?_, trivial⟩
  all_goals simp [World.cell?, h]
theorem cell_setY {W : World} {p q : Addr} (u : Value) (_h : True) (hne : p ≠ q) : (W.setCell q u).cell? p = W.cell? p := by
  have h : q ≠ p := fun e => hne e.symm
  first
    | exact World.cell?_setCell_other _ _ _ _ h
    | exact World.cell?_setCell_other _ _ _ h
    | exact World.cell?_setCell_other _ _ h
    | exact World.cell?_setCell_other _ h

set_option maxRecDepth 100000 in
set_option maxHeartbeats 8000000 in
theorem rScan_any (s : ByteArray) (w : World) (hs : s.size ≤ maxLen) :
    Calls Tryz.prog 16 #[.string s] w fun e w' => (∃ a cap, e = .returned (.tuple #[.slice a (tksOf s).length cap, .int .i64 (scanErr s)]) ∧ (tksOf s).length ≤ cap ∧ TzIn w' a (tksOf s)) ∧ Below w.heap.size w w' := by
  have CC := rchars_any s w hs
  obtain ⟨E, hE⟩ : ∃ E, scanErr s = E := ⟨_, rfl⟩
  rcases check_cases s.data.toList with ⟨hc, hz⟩ | hc | hc
  · rw [size_list] at hz
    have hbt : (⟨(bts (charsOf s.data.toList)).toArray⟩ : ByteArray) = logB s := by
      unfold logB
      rw [charsOf_ok hc, logicalOf_ok hc, bts_chB]
    have hcl := charsOf_le s.data.toList
    rw [size_list] at hcl
    have CL := rlogical_at hc rfl hs (by omega)
    rw [hbt] at CL
    have hLz := logB_size s
    have CT := fun W => rTokens_any (logB s) W (by omega)
    rw [logB_list] at CT
    rw [hc] at CC
    have he : scanErr s = ((toks (logicalOf s.data.toList) 0 0).2 : Int) := by unfold scanErr; rw [if_pos hc]
    obtain ⟨f, hf⟩ : ∃ f, (toks (logicalOf s.data.toList) 0 0).2 = f := ⟨_, rfl⟩
    rw [hf] at CT he
    by_cases hf0 : f = 0
    · subst hf0
      have ht : tksOf s = ((toksY (logB s)).map (srcY (charsOf s.data.toList))).map tzOf := by
        have he0 : scanErr s = 0 := he.trans rfl
        unfold tksOf scanOf; rw [if_pos he0]
      rw [he, ht]
      have hyf := fun y (h : y ∈ toksY (logB s)) => yd_fit h
      rw [hLz] at hyf
      obtain ⟨ys, hys⟩ : ∃ ys, toksY (logB s) = ys := ⟨_, rfl⟩
      rw [hys] at CT hyf ⊢
      obtain ⟨cs, hcs⟩ : ∃ cs, charsOf s.data.toList = cs := ⟨_, rfl⟩
      rw [hcs] at CC hcl hyf ⊢
      obtain ⟨n, hn⟩ : ∃ n, ys.length = n := ⟨_, rfl⟩
      have hnb : n ≤ 65536 := by
        have := toksY_len (logB s)
        rw [hys] at this
        rw [hcs] at hLz
        omega
      have HN := Lib.hid hn
      have HCB := Lib.hid (charsOf_bound (l := s.data.toList) (by rw [size_list]; exact hz))
      rw [hcs] at HCB
      have HYF := Lib.hid hyf
      have CT2 := fun W => (CT W).mono (fun e w' h => h)
      rw [List.length_map, List.length_map, hn]
      clear hE hf he ht hys hcs hyf hn hc hbt hLz CT
      go_enter Tryz.func16, Tryz.ntmps16
      go_wp2_with fail
      refine CC.mono ?_
      rintro e w1 ⟨⟨a1, cap1, rfl, hrow1⟩, hb1⟩
      clear CC
      go_wp2_with fail
      refine (CL _).mono ?_
      rintro e w2 ⟨rfl, hb2⟩
      have hB2 := hb1.trans (hb2.mono hb1.size)
      have hrow2 := hrow1.below hb2 (Nat.le_refl _)
      clear CL hrow1
      go_wp2_with fail
      refine (CT2 _).mono ?_
      rintro e w3 ⟨⟨v, rfl, hy3, -⟩, hb3⟩
      have hy3' := hy3 trivial
      rw [HN.out] at hy3'
      obtain ⟨a3, cap3, rfl⟩ := row_shape hy3'
      have HR := Lib.hid hrow2
      have hB3 := hB2.trans (hb3.mono hB2.size)
      clear CT2 hy3 hrow2
      go_wp2
      go_loopg [10] n (fun g i wx => ∃ k : Nat, k ≤ n ∧ i = .int .i64 k ∧ g = n - k ∧ wx.ownsRow w2.heap.size 83 5 (.slice a3 n cap3) n (ydCells (mixY cs ys k)) ∧ Below w2.heap.size w2 wx)
      case atStart => exact ⟨0, Nat.zero_le _, rfl, rfl, hy3', hb3⟩
      case round =>
        obtain ⟨k, hk, rfl, rfl, hown, hbx⟩ := hrel
        by_cases hlt : k < n
        · obtain ⟨y, hy⟩ : ∃ y, ys[k]? = some y := ⟨_, List.getElem?_eq_getElem (by rw [HN.out]; exact hlt)⟩
          obtain ⟨g, rfl, hg, -⟩ := row_pos (by omega) hown
          have hym := mixY_get (cs := cs) hy
          have q2 := yds_cell hown hym 2 (by omega)
          have q3 := yds_cell hown hym 3 (by omega)
          obtain ⟨f1, f2⟩ := HYF.out y (List.mem_of_getElem? hy)
          obtain ⟨d, hd⟩ : ∃ d, y.e = d + 1 := ⟨y.e - 1, by omega⟩
          obtain ⟨ga, hga⟩ : ∃ x, y.a = x := ⟨_, rfl⟩
          have hp1 := chAt_getY (cs := cs) (k := d) (by omega)
          have hp2 := chAt_getY (cs := cs) (k := ga) (by omega)
          obtain ⟨gc, rfl, -, hgc, hcap, -, u0, u1, u2⟩ := HR.out.cells hp1
          obtain ⟨gc', e', -, -, -, -, -, v1, -⟩ := HR.out.cells hp2
          simp only [Option.some.injEq, Addr.mk.injEq, and_true] at e'
          subst e'
          have hb1' := HCB.out _ (List.mem_of_getElem? hp1)
          have hb2' := HCB.out _ (List.mem_of_getElem? hp2)
          have HS := Lib.hid (mixY_set (cs := cs) hy)
          have hsa : (srcY cs y).a = (chAt cs ga).at' := by rw [← hga]; rfl
          have hse : (srcY cs y).e = (chAt cs d).at' + (chAt cs d).n := by
            have : y.e - 1 = d := by omega
            rw [← this]; rfl
          rw [hsa, hse] at HS
          have q3' : wr.cell? ⟨g, k * 5 + 3, none⟩ = some (.int .i64 ((d : Int) + 1)) := by rw [q3]; simp [ydCell, hd]
          have q2' : wr.cell? ⟨g, k * 5 + 2, none⟩ = some (.int .i64 (ga : Int)) := by rw [q2]; simp [ydCell, hga]
          have hl := hown.lt
          have hg2 := (hl g rfl).1
          obtain ⟨P, hP⟩ : ∃ P, chAt cs d = P := ⟨_, rfl⟩
          obtain ⟨R, hR⟩ : ∃ R, chAt cs ga = R := ⟨_, rfl⟩
          rw [hP] at u0 u1 u2 hb1' HS
          rw [hR] at v1 hb2' HS
          have c0 := (hbx.cell (p := ⟨gc, d * 3, none⟩) hgc).trans u0
          have c1 := (hbx.cell (p := ⟨gc, d * 3 + 1, none⟩) hgc).trans u1
          have c2 := (hbx.cell (p := ⟨gc, d * 3 + 2, none⟩) hgc).trans u2
          have hbs := hbx.size
          -- the box of the last character
          have hbA := below1 wr (.cells #[.int .u8 P.b.toNat, .int .i64 P.at', .int .i64 P.n] 81)
          have hBA := hbx.trans (hbA.mono hbs)
          have hboxA := World.alloc_heap_new wr (.cells #[.int .u8 P.b.toNat, .int .i64 P.at', .int .i64 P.n] 81)
          have hownA := hown.alloc (.cells #[.int .u8 P.b.toNat, .int .i64 P.at', .int .i64 P.n] 81)
          have r2 := (hbA.cell (p := ⟨g, k * 5 + 2, none⟩) hg).trans q2'
          have d1 := (hBA.cell (p := ⟨gc, ga * 3 + 1, none⟩) hgc).trans v1
          have fA := hownA.frozenAt (k * 5 + 2)
          have fA3 := hownA.frozenAt (k * 5 + 3)
          have g2 := hown.frozenAt (k * 5 + 2)
          have g3 := hown.frozenAt (k * 5 + 3)
          have r3 := (hbA.cell (p := ⟨g, k * 5 + 3, none⟩) hg).trans q3'
          obtain ⟨hownB, -⟩ := hownA.stored (k * 5 + 2) (.int .i64 (R.at' : Nat))
          have hBB := hBA.setCell (p := ⟨g, k * 5 + 2, none⟩) hg2 (.int .i64 (R.at' : Nat))
          have hboxB : ((wr.alloc (.cells #[.int .u8 P.b.toNat, .int .i64 P.at', .int .i64 P.n] 81)).setCell ⟨g, k * 5 + 2, none⟩ (.int .i64 (R.at' : Nat))).heap[wr.heap.size]? = some (.cells #[.int .u8 P.b.toNat, .int .i64 P.at', .int .i64 P.n] 81 (0, 0)) := by
            rw [Below.heap_setCell _ _ _ _ (by show wr.heap.size ≠ g; omega)]
            exact hboxA
          obtain ⟨e0, e1, e2, -⟩ := row_facts' hboxB
          have fB := hownB.frozenAt (k * 5 + 3)
          have s3 : ((wr.alloc (.cells #[.int .u8 P.b.toNat, .int .i64 P.at', .int .i64 P.n] 81)).setCell ⟨g, k * 5 + 2, none⟩ (.int .i64 (R.at' : Nat))).cell? ⟨g, k * 5 + 3, none⟩ = some (.int .i64 ((d : Int) + 1)) := by
            rw [cell_setY _ trivial (by simp)]
            exact (hbA.cell (p := ⟨g, k * 5 + 3, none⟩) hg).trans q3'
          obtain ⟨hownC, -⟩ := hownB.stored (k * 5 + 3) (.int .i64 ((P.at' : Int) + P.n))
          have hBC := hBB.setCell (p := ⟨g, k * 5 + 3, none⟩) hg2 (.int .i64 ((P.at' : Int) + P.n))
          have hx1 := (hown.stored (k * 5 + 2) (.int .i64 (R.at' : Nat))).1
          have hx2 := (hx1.stored (k * 5 + 3) (.int .i64 ((P.at' : Int) + P.n))).1
          have hx3 := hx2.alloc (.cells #[.int .u8 P.b.toNat, .int .i64 P.at', .int .i64 P.n] 81)
          have hy1 := (hbx.setCell (p := ⟨g, k * 5 + 2, none⟩) hg2 (.int .i64 (R.at' : Nat))).setCell (p := ⟨g, k * 5 + 3, none⟩) hg2 (.int .i64 ((P.at' : Int) + P.n))
          have hy2 := hy1.alloc hy1.size (.cells #[.int .u8 P.b.toNat, .int .i64 P.at', .int .i64 P.n] 81)
          have j1 : (k : Int) < (n : Int) := by omega
          have j0 : (0 : Int) ≤ (k : Int) := by omega
          have j2 : ¬ (n : Int) ≤ (k : Int) := by omega
          have j3 : (d : Int) < (cs.length : Int) := by omega
          have j4 : (0 : Int) ≤ (d : Int) := by omega
          have j5 : (ga : Int) < (cs.length : Int) := by omega
          have j6 : (0 : Int) ≤ (ga : Int) := by omega
          clear q2 q3 u0 u1 u2 v1 hp1 hp2 hym hy hd hga hsa hse hP hR hl HR
          go_wp2
          go_roundg (n - (k + 1))
          case rel =>
            refine ⟨k + 1, by omega, by go_num, rfl, ?_, hy2⟩
            rw [← HS.out]
            exact hx3
          case measure => omega
        · obtain rfl : k = n := by omega
          have j1 : ¬ (k : Int) < (k : Int) := by omega
          go_wp2
          go_ret2
          have hm : mixY cs ys k = ys.map (srcY cs) := by
            have := mixY_end cs ys
            rw [HN.out] at this
            exact this
          rw [hm] at hown
          have hlen : (ys.map (srcY cs)).length = k := by rw [List.length_map, HN.out]
          have hcap := row_cap2 hown
          refine ⟨⟨a3, cap3, rfl, hcap, fun hp => ?_⟩, hB2.trans (hbx.mono hB2.size)⟩
          have hown' := hown
          rw [← hlen] at hown'
          obtain ⟨g, rfl, _, hg, ht⟩ := tokRow_of (by rw [List.length_map] at hp ⊢; exact hp) hown'
          have hz := ht.tz.at
          rw [List.map_map] at hz
          exact ⟨g, 0, rfl, hg, hz⟩
    · have ht : tksOf s = [] := tks_err (by rw [he]; omega)
      rw [ht, he]
      clear hE hf he ht
      have j1 : (f : Int) ≠ 0 := by omega
      go_enter Tryz.func16, Tryz.ntmps16
      go_wp2_with fail
      refine CC.mono ?_
      rintro e w1 ⟨⟨a1, cap1, rfl, hrow1⟩, hb1⟩
      clear CC
      go_wp2_with fail
      refine (CL _).mono ?_
      rintro e w2 ⟨rfl, hb2⟩
      have hB2 := hb1.trans (hb2.mono hb1.size)
      clear CL hrow1
      go_wp2_with fail
      refine (CT _).mono ?_
      rintro e w3 ⟨⟨v, rfl, -, hv⟩, hb3⟩
      obtain rfl := hv hf0
      have hB3 := hB2.trans (hb3.mono hB2.size)
      clear CT hv
      go_wp2
      go_loopw [10] (fun i wx => i = .int .i64 0 ∧ w3 = wx) (fun _ _ => 0)
      case atStart => exact ⟨rfl, rfl⟩
      case round =>
        obtain ⟨rfl, hwx⟩ := hrel
        subst hwx
        go_wp2
        go_ret2
        exact ⟨⟨none, 0, rfl, Nat.le_refl _, fun hp => absurd hp (Nat.lt_irrefl 0)⟩, hB3⟩
  all_goals
    have he : scanErr s = checkN s.data.toList := by unfold scanErr; rw [if_neg (by rw [hc]; decide)]
    have ht : tksOf s = [] := tks_err (by rw [he, hc]; decide)
    rw [hc] at CC he
    rw [ht, he]
    clear hE ht he
    go_enter Tryz.func16, Tryz.ntmps16
    go_wp2_with fail
    refine CC.mono ?_
    rintro e w1 ⟨⟨a, cap, rfl, -⟩, hb1⟩
    clear CC
    go_wp2
    go_ret2
    exact ⟨⟨none, 0, rfl, Nat.le_refl _, fun hp => absurd hp (Nat.lt_irrefl 0)⟩, hb1⟩

end Go.Proofs.YtaodjipnffgihaaGreat
