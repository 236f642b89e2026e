/- macro.mayBeBody. -/
import Derived.Test.YtaodjipnffgihaaGreatMcE
import Derived.Test.YtaodjipnffgihaaGreatMcD
namespace Go.Proofs.YtaodjipnffgihaaGreat
open Go.RowKit Go.Shelf

theorem mayT_drop {fn vr : Bool} {ps : List ByteArray} {ts : List Tz} {k : Nat} {t : Tz} (h : ts[k]? = some t) : mayT fn vr ps (ts.drop k) = (oneT fn vr ps t (ts.drop (k + 1)) && mayT fn vr ps (ts.drop (k + 1))) := by
  rw [List.drop_eq_getElem_cons (List.getElem?_eq_some_iff.1 h).1, (List.getElem?_eq_some_iff.1 h).2, mayT]
theorem tzIn_drop {W : World} {b o : Nat} {ts : List Tz} (hb : b < W.heap.size) (h : TzAt W b o ts) (i : Nat) : TzIn W (some ⟨b, o + i * 5, none⟩) (ts.drop i) := fun _ => ⟨b, o + i * 5, rfl, hb, h.drop i⟩
theorem endsB_last {ts : List Tz} {t u : Tz} {n : Nat} (hn : ts.length = n) (h0 : ts[0]? = some t) (h1 : ts[n - 1]? = some u) : endsB ts = (!pasteB t && !pasteB u) := by
  cases ts with
  | nil => simp at h0
  | cons x r =>
    simp only [List.getElem?_cons_zero, Option.some.injEq] at h0
    subst h0
    have : (x :: r).getLast (by simp) = u := by
      rw [List.getLast_eq_getElem]
      have := (List.getElem?_eq_some_iff.1 h1).2
      rw [← this]
      congr 1
      rw [hn]
    rw [endsB, this]

def mArg (nm : ByteArray) (fn : Bool) (pa : Option Addr) (pn pc : Nat) (vr : Bool) (v : Value) : Array Value := #[.string nm, .bool fn, .slice pa pn pc, .bool vr, v]

set_option maxRecDepth 100000 in
set_option maxHeartbeats 4000000 in
theorem mayBody_bad (nm : ByteArray) (fn vr : Bool) (pa : Option Addr) (pn pc : Nat) (v : Value) (ts : List Tz) (n cap : Nat) (a : Option Addr) (w : World) (hn : ts.length = n) (hn2 : n * 48 ≤ 140737488355328) (hT : TzIn w a ts) (hE : endsB ts = false) :
    Calls Tryz.prog 56 #[.agg #[.string nm, .bool fn, .slice pa pn pc, .bool vr, v], .slice a n cap] w fun e w' => e = .returned (.bool false) ∧ Below w.heap.size w w' := by
  have hn0 : 0 < n := by
    cases ts with
    | nil => cases hE
    | cons x r => rw [← hn]; simp
  obtain ⟨t, ht⟩ : ∃ t, ts[0]? = some t := ⟨_, List.getElem?_eq_getElem (by rw [hn]; exact hn0)⟩
  obtain ⟨u, hu⟩ : ∃ u, ts[n - 1]? = some u := ⟨_, List.getElem?_eq_getElem (by rw [hn]; omega)⟩
  rw [endsB_last hn ht hu] at hE
  have hbM := below1 w (.cells #[.string nm, .bool fn, .slice pa pn pc, .bool vr, v] 25)
  obtain ⟨b, o, rfl, hg1, hr⟩ := hT (by omega)
  have hrM := hr.below hbM hg1
  obtain ⟨c0, c1, c2, c3, c4⟩ := hrM 0 t ht
  rw [Nat.zero_mul, Nat.add_zero] at c0 c1 c2 c3 c4
  have CT := fun w' => pastes_any t w'
  have CU := fun w' => pastes_any u w'
  have j1 : (0 : Int) < (n : Int) := by omega
  have j2 : ((n : Int) - 1).toNat = n - 1 := by omega
  have j3 : (0 : Int) ≤ (n : Int) - 1 := by omega
  have j4 : (n : Int) - 1 < (n : Int) := by omega
  have HU : Hid (∀ W, Below (w.alloc (.cells #[.string nm, .bool fn, .slice pa pn pc, .bool vr, v] 25)).heap.size (w.alloc (.cells #[.string nm, .bool fn, .slice pa pn pc, .bool vr, v] 25)) W → TzAt W b o ts) := Lib.hid (fun W h => hrM.below h (Nat.lt_of_lt_of_le hg1 hbM.size))
  have HUU := Lib.hid hu
  clear hn hT ht hu hr hrM
  cases hp : pasteB t with
  | true =>
    rw [hp] at CT
    clear hp hE
    go_enter Tryz.func56, Tryz.ntmps56
    go_wp2_with fail
    refine (CT _).mono ?_
    rintro e w1 ⟨rfl, hb1⟩
    go_wp2
    go_ret
    exact ⟨rfl, hbM.trans (hb1.mono hbM.size)⟩
  | false =>
    rw [hp] at CT hE
    have hq : pasteB u = true := by
      cases h : pasteB u with
      | true => rfl
      | false => rw [h] at hE; exact absurd hE (by decide)
    rw [hq] at CU
    clear hp hE hq
    go_enter Tryz.func56, Tryz.ntmps56
    go_wp2_with fail
    refine (CT _).mono ?_
    rintro e w1 ⟨rfl, hb1⟩
    obtain ⟨d0, d1, d2, d3, d4⟩ := HU.out w1 hb1 _ u HUU.out
    have hB1 := hbM.trans (hb1.mono hbM.size)
    clear c0 c1 c2 c3 c4
    go_wp2_with fail
    refine (CU _).mono ?_
    rintro e w2 ⟨rfl, hb2⟩
    go_wp2
    go_ret
    exact ⟨rfl, hB1.trans (hb2.mono hB1.size)⟩

theorem ownsMap_below {W W' : World} {P : Program} {k : TypeId} {R : Value → Option (DataW Unit × List MemPlace)} {b n : Nat} {D : DataW Unit} (h : W.ownsMap P k R b n D) (hb : Below W.heap.size W W') : W'.ownsMap P k R b n D :=
  h.kept (grownBy_below hb) (by simp)
theorem tok_block (W : World) (t : Tz) (o : Obj) : ((W.alloc (.cells #[.int .i64 t.k, .string t.tx, .int .i64 t.a, .int .i64 t.e, .bool t.sp] 83)).alloc o).heap[W.heap.size]? = some (.cells #[.int .i64 t.k, .string t.tx, .int .i64 t.a, .int .i64 t.e, .bool t.sp] 83 (0, 0)) :=
  ((below1 (W.alloc (.cells #[.int .i64 t.k, .string t.tx, .int .i64 t.a, .int .i64 t.e, .bool t.sp] 83)) o).block W.heap.size (by simp)).trans (World.alloc_heap_new W _)
theorem box_cells {W0 W : World} {B : Nat} {t : Tz} (h : W.heap[B]? = W0.heap[B]?) (hb : W0.heap[B]? = some (.cells #[.int .i64 t.k, .string t.tx, .int .i64 t.a, .int .i64 t.e, .bool t.sp] 83 (0, 0))) :
    W.cell? ⟨B, 0, none⟩ = some (.int .i64 t.k) ∧ W.cell? ⟨B, 1, none⟩ = some (.string t.tx) ∧ W.cell? ⟨B, 2, none⟩ = some (.int .i64 t.a) ∧ W.cell? ⟨B, 3, none⟩ = some (.int .i64 t.e) ∧ W.cell? ⟨B, 4, none⟩ = some (.bool t.sp) := by
  rw [hb] at h
  refine ⟨?_, ?_, ?_, ?_, ?_⟩ <;> rw [Lib.cell_of_heap h] <;> rfl

set_option maxRecDepth 100000 in
set_option maxHeartbeats 4000000 in
theorem mayBody_nil (nm : ByteArray) (fn vr : Bool) (ps : List ByteArray) (pa : Option Addr) (pn pc : Nat) (v : Value) (cap : Nat) (a : Option Addr) (w : World) (hpn : ps.length = pn) (hpn2 : pn * 16 ≤ 140737488355328) (hpx : ∀ s ∈ ps, s.size ≤ maxLen) (hpT : StrIn w pa ps) :
    Calls Tryz.prog 56 #[.agg #[.string nm, .bool fn, .slice pa pn pc, .bool vr, v], .slice a 0 cap] w fun e w' => e = .returned (.bool true) ∧ Below w.heap.size w w' := by
  have hbM := below1 w (.cells #[.string nm, .bool fn, .slice pa pn pc, .bool vr, v] 25)
  have CSet := setOf_any ps pn pc pa (w.alloc (.cells #[.string nm, .bool fn, .slice pa pn pc, .bool vr, v] 25)) hpn (by omega) hpx (hpT.below hbM)
  have hkey := key_str (s := ⟨#[95, 95, 86, 65, 95, 65, 82, 71, 83, 95, 95]⟩) (by decide)
  clear hpn hpx hpT
  go_enter Tryz.func56, Tryz.ntmps56
  go_wp2_with fail
  refine CSet.mono ?_
  rintro e w3 ⟨⟨B, rfl, hB, hS3⟩, hb3⟩
  have hSs := hb3.size
  clear CSet
  go_wp2_with (at_mapUpdate; refine wpList_mapUpdate_own _ rfl _ _ _ 133 rfl 9 135 lawS Tryz.underlying133 (unitElem (H := Unit)) B pn _ rfl hS3 (by unfold maxLen; omega) _ _ _ rfl rfl hkey _ [] unitElem_mk ?_; intro w4 hS4 hgrow4)
  have hb4 : Below (w.alloc (.cells #[.string nm, .bool fn, .slice pa pn pc, .bool vr, v] 25)).heap.size (w.alloc (.cells #[.string nm, .bool fn, .slice pa pn pc, .bool vr, v] 25)) w4 := hb3.grown hgrow4 hSs (fun j e => by cases e; exact hB)
  have hB4 : Below w.heap.size w w4 := hbM.trans (hb4.mono hbM.size)
  clear hgrow4 hS4 hS3 hb3 hb4 hSs hB
  go_loopw [33] (fun i wx => i = .int .i64 0 ∧ wx = w4) (fun i _ => 0)
  case atStart => exact ⟨rfl, rfl⟩
  case round =>
    obtain ⟨rfl, rfl⟩ := hrel
    go_wp2
    go_ret
    exact ⟨rfl, hB4⟩

set_option maxRecDepth 100000 in
set_option maxHeartbeats 16000000 in
theorem mayBody_pos (nm : ByteArray) (fn vr : Bool) (ps : List ByteArray) (pa : Option Addr) (pn pc : Nat) (v : Value) (ts : List Tz) (n cap : Nat) (a : Option Addr) (w : World) (hn : ts.length = n) (hnc : n ≤ cap) (hn2 : n * 48 ≤ 140737488355328) (hx : ∀ t ∈ ts, t.tx.size ≤ maxLen) (hT : TzIn w a ts) (hpn : ps.length = pn) (hpn2 : pn * 16 ≤ 140737488355328) (hpx : ∀ s ∈ ps, s.size ≤ maxLen) (hpT : StrIn w pa ps) (h0 : 0 < n) (hE : endsB ts = true) :
    Calls Tryz.prog 56 #[.agg #[.string nm, .bool fn, .slice pa pn pc, .bool vr, v], .slice a n cap] w fun e w' => e = .returned (.bool (mayT fn vr ps ts)) ∧ Below w.heap.size w w' := by
  have hbM := below1 w (.cells #[.string nm, .bool fn, .slice pa pn pc, .bool vr, v] 25)
  have hkM := mcells (w := w) (vs := #[.string nm, .bool fn, .slice pa pn pc, .bool vr, v]) (t := 25)
  have HN := Lib.hid hn
  have HX := Lib.hid hx
  have HPN := Lib.hid hpn
  have HPX := Lib.hid hpx
  have HPT : Hid (∀ W, Below (w.alloc (.cells #[.string nm, .bool fn, .slice pa pn pc, .bool vr, v] 25)).heap.size (w.alloc (.cells #[.string nm, .bool fn, .slice pa pn pc, .bool vr, v] 25)) W → StrIn W pa ps) := Lib.hid (fun W h => (hpT.below hbM).below h)
  have HTT : Hid (∀ W, Below w.heap.size w W → TzIn W a ts) := Lib.hid (fun W h => hT.below h)
  obtain ⟨R, hR⟩ : ∃ R, mayT fn vr ps ts = R := ⟨_, rfl⟩
  have HR : Hid (R = mayT fn vr ps (ts.drop 0)) := Lib.hid hR.symm
  rw [hR]
  obtain ⟨t0, ht⟩ : ∃ t, ts[0]? = some t := ⟨_, List.getElem?_eq_getElem (by rw [hn]; exact h0)⟩
  obtain ⟨u0, hu⟩ : ∃ u, ts[n - 1]? = some u := ⟨_, List.getElem?_eq_getElem (by rw [hn]; omega)⟩
  rw [endsB_last hn ht hu] at hE
  have hE1 : pasteB t0 = false := by
    cases h : pasteB t0 with
    | false => rfl
    | true => rw [h] at hE; simp at hE
  have hE2 : pasteB u0 = false := by
    cases h : pasteB u0 with
    | false => rfl
    | true => rw [h, hE1] at hE; simp at hE
  have CT := fun w' => pastes_any t0 w'
  have CU := fun w' => pastes_any u0 w'
  rw [hE1] at CT
  rw [hE2] at CU
  obtain ⟨b, o, rfl, hg1, hr⟩ := hT (by omega)
  have hrM := hr.below hbM hg1
  obtain ⟨c0, c1, c2, c3, c4⟩ := hrM 0 t0 ht
  rw [Nat.zero_mul, Nat.add_zero] at c0 c1 c2 c3 c4
  have q1 : (0 : Int) < (n : Int) := by omega
  have q2 : ((n : Int) - 1).toNat = n - 1 := by omega
  have q3 : (0 : Int) ≤ (n : Int) - 1 := by omega
  have q4 : (n : Int) - 1 < (n : Int) := by omega
  have HU : Hid (∀ W, Below (w.alloc (.cells #[.string nm, .bool fn, .slice pa pn pc, .bool vr, v] 25)).heap.size (w.alloc (.cells #[.string nm, .bool fn, .slice pa pn pc, .bool vr, v] 25)) W → TzAt W b o ts) := Lib.hid (fun W h => hrM.below h (Nat.lt_of_lt_of_le hg1 hbM.size))
  have HUU := Lib.hid hu
  clear hn hx hpn hpx hpT hT hR hE hE1 hE2 ht hu hr hrM
  go_enter Tryz.func56, Tryz.ntmps56
  go_wp2_with fail
  refine (CT _).mono ?_
  rintro e w1 ⟨rfl, hb1⟩
  obtain ⟨d0, d1, d2, d3, d4⟩ := HU.out w1 hb1 _ u0 HUU.out
  clear c0 c1 c2 c3 c4
  go_wp2_with fail
  refine (CU _).mono ?_
  rintro e w2 ⟨rfl, hb2⟩
  have hP := hb1.trans (hb2.mono hb1.size)
  have q5 : w2.cell? ⟨w.heap.size, 2, none⟩ = some (.slice pa pn pc) := (hP.cell (p := ⟨w.heap.size, 2, none⟩) (by simp)).trans (hkM 2 _ rfl)
  clear d0 d1 d2 d3 d4 hb1 hb2 CT CU HU HUU q1 q2 q3 q4
  have CSet := setOf_any ps pn pc pa w2 HPN.out (by omega) HPX.out (HPT.out w2 hP)
  have hPs := hP.size
  have hPz : w.heap.size < w2.heap.size := Nat.lt_of_lt_of_le (by simp) hPs
  have hkey := key_str (s := ⟨#[95, 95, 86, 65, 95, 65, 82, 71, 83, 95, 95]⟩) (by decide)
  go_wp2_with fail
  refine CSet.mono ?_
  rintro e w3 ⟨⟨B, rfl, hB, hS3⟩, hb3⟩
  have hP3 := hP.trans (hb3.mono hPs)
  have hSs := hb3.size
  clear CSet
  go_wp2_with (at_mapUpdate; refine wpList_mapUpdate_own _ rfl _ _ _ 133 rfl 9 135 lawS Tryz.underlying133 (unitElem (H := Unit)) B pn _ rfl hS3 (by unfold maxLen; omega) _ _ _ rfl rfl hkey _ [] unitElem_mk ?_; intro w4 hS4 hgrow4)
  have hb4 : Below w2.heap.size w2 w4 := hb3.grown hgrow4 hSs (fun j e => by cases e; exact hB)
  have hP4 := hP.trans (hb4.mono hPs)
  have hB4 : Below w.heap.size w w4 := hbM.trans (hP4.mono hbM.size)
  have hM4 : w.heap.size < w4.heap.size := Nat.lt_of_lt_of_le hPz hb4.size
  have HM1 : Hid (w4.cell? ⟨w.heap.size, 1, none⟩ = some (.bool fn)) := Lib.hid ((hP4.cell (p := ⟨w.heap.size, 1, none⟩) (by simp)).trans (hkM 1 _ rfl))
  have HM3 : Hid (w4.cell? ⟨w.heap.size, 3, none⟩ = some (.bool vr)) := Lib.hid ((hP4.cell (p := ⟨w.heap.size, 3, none⟩) (by simp)).trans (hkM 3 _ rfl))
  have HS4 : Hid (∀ W, Below w4.heap.size w4 W → SetIn W B (pn + 1) (ps ++ [⟨#[95, 95, 86, 65, 95, 65, 82, 71, 83, 95, 95]⟩])) := Lib.hid (fun W h => by
    unfold SetIn
    rw [setT_snoc]
    exact ownsMap_below hS4 h)
  have HT4 : Hid (TzIn w4 (some ⟨b, o, none⟩) ts) := Lib.hid (HTT.out w4 hB4)
  clear hgrow4 hS4 hS3 hb3 hP3 hP4 hb4 hP hkM hPs hPz hSs hB
  go_loopw [33] (fun i wx => ∃ k : Nat, k ≤ n ∧ i = .int .i64 k ∧ Hid (R = mayT fn vr ps (ts.drop k)) ∧ Below w4.heap.size w4 wx) (fun i _ => n - (intOf i).toNat)
  case atStart => exact ⟨0, Nat.zero_le _, rfl, HR, Below.refl _ _⟩
  case round =>
    obtain ⟨k, hk, rfl, HK, hbx⟩ := hrel
    by_cases hlt : k < n
    · obtain ⟨t, ht⟩ : ∃ t, ts[k]? = some t := ⟨_, List.getElem?_eq_getElem (by rw [HN.out]; exact hlt)⟩
      obtain ⟨b', o', e', hgw, hr'⟩ := (HT4.out.below hbx) (by rw [HN.out]; omega)
      cases e'
      obtain ⟨c0, c1, c2, c3, c4⟩ := hr' k t ht
      have hst := HK.out
      rw [mayT_drop ht] at hst
      have HK2 := Lib.hid hst
      have hbT : Below w4.heap.size w4 ((wr.alloc (.cells #[.int .i64 t.k, .string t.tx, .int .i64 t.a, .int .i64 t.e, .bool t.sp] 83)).alloc (.cells #[.string ⟨#[95, 95, 86, 65, 95, 65, 82, 71, 83, 95, 95]⟩] 9)) := (hbx.alloc hbx.size _).alloc (hbx.alloc hbx.size _).size _
      have hbW : Below wr.heap.size wr ((wr.alloc (.cells #[.int .i64 t.k, .string t.tx, .int .i64 t.a, .int .i64 t.e, .bool t.sp] 83)).alloc (.cells #[.string ⟨#[95, 95, 86, 65, 95, 65, 82, 71, 83, 95, 95]⟩] 9)) := below2 wr _ _
      have hkT1 := Lib.hid (tok_block wr t (.cells #[.string ⟨#[95, 95, 86, 65, 95, 65, 82, 71, 83, 95, 95]⟩] 9))
      have CS1 := spells_any t 1 [⟨#[95, 95, 86, 65, 95, 65, 82, 71, 83, 95, 95]⟩] 1 1 _ _ rfl (by decide) (strIn_two wr (.cells #[.int .i64 t.k, .string t.tx, .int .i64 t.a, .int .i64 t.e, .bool t.sp] 83) 9 #[.string ⟨#[95, 95, 86, 65, 95, 65, 82, 71, 83, 95, 95]⟩] [⟨#[95, 95, 86, 65, 95, 65, 82, 71, 83, 95, 95]⟩] rfl)
      rw [← isW_eq] at CS1
      have m3 : wr.cell? ⟨w.heap.size, 3, none⟩ = some (.bool vr) := (hbx.cell (p := ⟨w.heap.size, 3, none⟩) hM4).trans HM3.out
      have j1 : (k : Int) < (n : Int) := by omega
      have j0 : (0 : Int) ≤ (k : Int) := by omega
      have v3' : (0 : Int) ≤ (k : Int) + 1 := by omega
      have v4' : (k : Int) + 1 ≤ (n : Int) := by omega
      have v6' : (k : Int) + 1 ≤ (cap : Int) := by omega
      clear ht hst HK
      cases hc1 : isW t vaL with
      | true =>
        rw [hc1] at CS1
        cases vr with
        | false =>
          have HR3 : Hid (R = false) := Lib.hid (by rw [HK2.out]; unfold oneT; rw [hc1]; simp)
          clear HK2 hc1
          go_wp2_with fail
          refine CS1.mono ?_
          rintro e v1 ⟨rfl, hv1⟩
          have hx1 : Below w4.heap.size w4 v1 := hbT.trans (hv1.mono hbT.size)
          have m4 : v1.cell? ⟨w.heap.size, 3, none⟩ = some (.bool false) := (hx1.cell (p := ⟨w.heap.size, 3, none⟩) hM4).trans HM3.out
          go_wp2
          go_ret
          exact ⟨rb (by rw [HR3.out]), hB4.trans (hx1.mono hB4.size)⟩
        | true =>
          cases fn with
          | false =>
            have HN3 : Hid (R = mayT false true ps (ts.drop (k + 1))) := Lib.hid (by rw [HK2.out]; unfold oneT; rw [hc1]; simp)
            clear HK2 hc1
            go_wp2_with fail
            refine CS1.mono ?_
            rintro e v1 ⟨rfl, hv1⟩
            have hx1 : Below w4.heap.size w4 v1 := hbT.trans (hv1.mono hbT.size)
            obtain ⟨d0, d1, d2, d3, d4⟩ := box_cells (hv1.block wr.heap.size (by simp; omega)) (hkT1.out)
            have m4 : v1.cell? ⟨w.heap.size, 3, none⟩ = some (.bool true) := (hx1.cell (p := ⟨w.heap.size, 3, none⟩) hM4).trans HM3.out
            have m1 : v1.cell? ⟨w.heap.size, 1, none⟩ = some (.bool false) := (hx1.cell (p := ⟨w.heap.size, 1, none⟩) hM4).trans HM1.out
            go_wp2
            refine ⟨⟨k + 1, by omega, by go_num, HN3, hx1⟩, ?_⟩
            simp [intOf]; omega

          | true =>
            have CS2 := fun (W : World) (a2 : Option Addr) (h : StrIn W a2 [⟨#[35]⟩, ⟨#[37, 58]⟩]) => spells_any t 5 [⟨#[35]⟩, ⟨#[37, 58]⟩] 2 2 a2 W rfl (by decide) h
            rw [← hashP_eq] at CS2
            cases hc2 : hashP t with
            | false =>
              rw [hc2] at CS2
              have HN3 : Hid (R = mayT true true ps (ts.drop (k + 1))) := Lib.hid (by rw [HK2.out]; unfold oneT; rw [hc1, hc2]; simp)
              clear HK2 hc1 hc2
              go_wp2_with fail
              refine CS1.mono ?_
              rintro e v1 ⟨rfl, hv1⟩
              have hx1 : Below w4.heap.size w4 v1 := hbT.trans (hv1.mono hbT.size)
              obtain ⟨d0, d1, d2, d3, d4⟩ := box_cells (hv1.block wr.heap.size (by simp; omega)) (hkT1.out)
              have m4 : v1.cell? ⟨w.heap.size, 3, none⟩ = some (.bool true) := (hx1.cell (p := ⟨w.heap.size, 3, none⟩) hM4).trans HM3.out
              have m1 : v1.cell? ⟨w.heap.size, 1, none⟩ = some (.bool true) := (hx1.cell (p := ⟨w.heap.size, 1, none⟩) hM4).trans HM1.out
              go_wp2_with fail
              refine (CS2 _ _ (strIn_one v1 9 #[.string ⟨#[35]⟩, .string ⟨#[37, 58]⟩] _ rfl)).mono ?_
              rintro e v2 ⟨rfl, hv2⟩
              have hx2 : Below w4.heap.size w4 v2 := (hx1.alloc hx1.size _).trans (hv2.mono (hx1.alloc hx1.size _).size)
              go_wp2
              refine ⟨⟨k + 1, by omega, by go_num, HN3, hx2⟩, ?_⟩
              simp [intOf]; omega

            | true =>
              rw [hc2] at CS2
              have CS3 := fun (a3 : Option Addr) (m3 c3 : Nat) (W : World) (hm : (ts.drop (k + 1)).length = m3) (h3 : TzIn W a3 (ts.drop (k + 1))) (h4 : SetIn W B (pn + 1) (ps ++ [⟨#[95, 95, 86, 65, 95, 65, 82, 71, 83, 95, 95]⟩])) => begins_arg (ts.drop (k + 1)) (ps ++ [⟨#[95, 95, 86, 65, 95, 65, 82, 71, 83, 95, 95]⟩]) m3 c3 B (pn + 1) a3 W hm (by rw [← hm, List.length_drop, HN.out]; omega) (fun t ht => HX.out t (List.mem_of_mem_drop ht)) h3 h4
              rw [argQ_argB] at CS3
              have HD : Hid ((ts.drop (k + 1)).length = n - (k + 1)) := Lib.hid (by rw [List.length_drop, HN.out])
              cases hc3 : argB ps (ts.drop (k + 1)) with
              | false =>
                rw [hc3] at CS3
                have HR3 : Hid (R = false) := Lib.hid (by rw [HK2.out]; unfold oneT; rw [hc1, hc2, hc3]; simp)
                clear HK2 hc1 hc2 hc3
                by_cases hcap : cap = k + 1
                · obtain rfl : n = k + 1 := by omega
                  subst hcap
                  go_wp2_with fail
                  refine CS1.mono ?_
                  rintro e v1 ⟨rfl, hv1⟩
                  have hx1 : Below w4.heap.size w4 v1 := hbT.trans (hv1.mono hbT.size)
                  obtain ⟨d0, d1, d2, d3, d4⟩ := box_cells (hv1.block wr.heap.size (by simp; omega)) (hkT1.out)
                  have m4 : v1.cell? ⟨w.heap.size, 3, none⟩ = some (.bool true) := (hx1.cell (p := ⟨w.heap.size, 3, none⟩) hM4).trans HM3.out
                  have m1 : v1.cell? ⟨w.heap.size, 1, none⟩ = some (.bool true) := (hx1.cell (p := ⟨w.heap.size, 1, none⟩) hM4).trans HM1.out
                  have hxr : Below wr.heap.size wr v1 := hbW.trans (hv1.mono hbW.size)
                  go_wp2_with fail
                  refine (CS2 _ _ (strIn_one v1 9 #[.string ⟨#[35]⟩, .string ⟨#[37, 58]⟩] _ rfl)).mono ?_
                  rintro e v2 ⟨rfl, hv2⟩
                  have hx2 : Below w4.heap.size w4 v2 := (hx1.alloc hx1.size _).trans (hv2.mono (hx1.alloc hx1.size _).size)
                  have hS2 : SetIn v2 B (pn + 1) (ps ++ [⟨#[95, 95, 86, 65, 95, 65, 82, 71, 83, 95, 95]⟩]) := HS4.out v2 hx2
                  have hxr2 : Below wr.heap.size wr v2 := (hxr.alloc hxr.size _).trans (hv2.mono (hxr.alloc hxr.size _).size)
                  clear d0 d1 d2 d3 d4 m1
                  go_wp2_with fail
                  refine (CS3 _ 0 _ v2 (by rw [HD.out]; omega) (fun hp => absurd hp (by rw [HD.out]; omega)) hS2).mono ?_
                  rintro e v3 ⟨rfl, hv3⟩
                  have hx3 : Below w4.heap.size w4 v3 := hx2.trans (hv3.mono hx2.size)
                  go_wp2
                  go_ret
                  exact ⟨rb (by rw [HR3.out]), hB4.trans ((hx3).mono hB4.size)⟩

                · have v5 : ¬ (cap : Int) = (k : Int) + 1 := by omega
                  go_wp2_with fail
                  refine CS1.mono ?_
                  rintro e v1 ⟨rfl, hv1⟩
                  have hx1 : Below w4.heap.size w4 v1 := hbT.trans (hv1.mono hbT.size)
                  obtain ⟨d0, d1, d2, d3, d4⟩ := box_cells (hv1.block wr.heap.size (by simp; omega)) (hkT1.out)
                  have m4 : v1.cell? ⟨w.heap.size, 3, none⟩ = some (.bool true) := (hx1.cell (p := ⟨w.heap.size, 3, none⟩) hM4).trans HM3.out
                  have m1 : v1.cell? ⟨w.heap.size, 1, none⟩ = some (.bool true) := (hx1.cell (p := ⟨w.heap.size, 1, none⟩) hM4).trans HM1.out
                  have hxr : Below wr.heap.size wr v1 := hbW.trans (hv1.mono hbW.size)
                  go_wp2_with fail
                  refine (CS2 _ _ (strIn_one v1 9 #[.string ⟨#[35]⟩, .string ⟨#[37, 58]⟩] _ rfl)).mono ?_
                  rintro e v2 ⟨rfl, hv2⟩
                  have hx2 : Below w4.heap.size w4 v2 := (hx1.alloc hx1.size _).trans (hv2.mono (hx1.alloc hx1.size _).size)
                  have hS2 : SetIn v2 B (pn + 1) (ps ++ [⟨#[95, 95, 86, 65, 95, 65, 82, 71, 83, 95, 95]⟩]) := HS4.out v2 hx2
                  have hxr2 : Below wr.heap.size wr v2 := (hxr.alloc hxr.size _).trans (hv2.mono (hxr.alloc hxr.size _).size)
                  clear d0 d1 d2 d3 d4 m1
                  go_wp2_with fail
                  refine (CS3 _ (n - (k + 1)) _ v2 HD.out (TzIn.below (tzIn_drop hgw hr' (k + 1)) hxr2) hS2).mono ?_
                  rintro e v3 ⟨rfl, hv3⟩
                  have hx3 : Below w4.heap.size w4 v3 := hx2.trans (hv3.mono hx2.size)
                  go_wp2
                  go_ret
                  exact ⟨rb (by rw [HR3.out]), hB4.trans ((hx3).mono hB4.size)⟩

              | true =>
                rw [hc3] at CS3
                have HN3 : Hid (R = mayT true true ps (ts.drop (k + 1))) := Lib.hid (by rw [HK2.out]; unfold oneT; rw [hc1, hc2, hc3]; simp)
                have hne : n ≠ k + 1 := fun e => by
                  rw [List.drop_eq_nil_of_le (by rw [HN.out]; omega)] at hc3
                  cases hc3
                clear HK2 hc1 hc2 hc3
                have v5 : ¬ (cap : Int) = (k : Int) + 1 := by omega
                go_wp2_with fail
                refine CS1.mono ?_
                rintro e v1 ⟨rfl, hv1⟩
                have hx1 : Below w4.heap.size w4 v1 := hbT.trans (hv1.mono hbT.size)
                obtain ⟨d0, d1, d2, d3, d4⟩ := box_cells (hv1.block wr.heap.size (by simp; omega)) (hkT1.out)
                have m4 : v1.cell? ⟨w.heap.size, 3, none⟩ = some (.bool true) := (hx1.cell (p := ⟨w.heap.size, 3, none⟩) hM4).trans HM3.out
                have m1 : v1.cell? ⟨w.heap.size, 1, none⟩ = some (.bool true) := (hx1.cell (p := ⟨w.heap.size, 1, none⟩) hM4).trans HM1.out
                have hxr : Below wr.heap.size wr v1 := hbW.trans (hv1.mono hbW.size)
                go_wp2_with fail
                refine (CS2 _ _ (strIn_one v1 9 #[.string ⟨#[35]⟩, .string ⟨#[37, 58]⟩] _ rfl)).mono ?_
                rintro e v2 ⟨rfl, hv2⟩
                have hx2 : Below w4.heap.size w4 v2 := (hx1.alloc hx1.size _).trans (hv2.mono (hx1.alloc hx1.size _).size)
                have hS2 : SetIn v2 B (pn + 1) (ps ++ [⟨#[95, 95, 86, 65, 95, 65, 82, 71, 83, 95, 95]⟩]) := HS4.out v2 hx2
                have hxr2 : Below wr.heap.size wr v2 := (hxr.alloc hxr.size _).trans (hv2.mono (hxr.alloc hxr.size _).size)
                clear d0 d1 d2 d3 d4 m1
                go_wp2_with fail
                refine (CS3 _ (n - (k + 1)) _ v2 HD.out (TzIn.below (tzIn_drop hgw hr' (k + 1)) hxr2) hS2).mono ?_
                rintro e v3 ⟨rfl, hv3⟩
                have hx3 : Below w4.heap.size w4 v3 := hx2.trans (hv3.mono hx2.size)
                go_wp2
                refine ⟨⟨k + 1, by omega, by go_num, HN3, hx3⟩, ?_⟩
                simp [intOf]; omega

      | false =>
        rw [hc1] at CS1
        cases fn with
        | false =>
          have HN3 : Hid (R = mayT false vr ps (ts.drop (k + 1))) := Lib.hid (by rw [HK2.out]; unfold oneT; rw [hc1]; simp)
          clear HK2 hc1
          go_wp2_with fail
          refine CS1.mono ?_
          rintro e v1 ⟨rfl, hv1⟩
          have hx1 : Below w4.heap.size w4 v1 := hbT.trans (hv1.mono hbT.size)
          obtain ⟨d0, d1, d2, d3, d4⟩ := box_cells (hv1.block wr.heap.size (by simp; omega)) (hkT1.out)
          have m1 : v1.cell? ⟨w.heap.size, 1, none⟩ = some (.bool false) := (hx1.cell (p := ⟨w.heap.size, 1, none⟩) hM4).trans HM1.out
          go_wp2
          refine ⟨⟨k + 1, by omega, by go_num, HN3, hx1⟩, ?_⟩
          simp [intOf]; omega

        | true =>
          have CS2 := fun (W : World) (a2 : Option Addr) (h : StrIn W a2 [⟨#[35]⟩, ⟨#[37, 58]⟩]) => spells_any t 5 [⟨#[35]⟩, ⟨#[37, 58]⟩] 2 2 a2 W rfl (by decide) h
          rw [← hashP_eq] at CS2
          cases hc2 : hashP t with
          | false =>
            rw [hc2] at CS2
            have HN3 : Hid (R = mayT true vr ps (ts.drop (k + 1))) := Lib.hid (by rw [HK2.out]; unfold oneT; rw [hc1, hc2]; simp)
            clear HK2 hc1 hc2
            go_wp2_with fail
            refine CS1.mono ?_
            rintro e v1 ⟨rfl, hv1⟩
            have hx1 : Below w4.heap.size w4 v1 := hbT.trans (hv1.mono hbT.size)
            obtain ⟨d0, d1, d2, d3, d4⟩ := box_cells (hv1.block wr.heap.size (by simp; omega)) (hkT1.out)
            have m1 : v1.cell? ⟨w.heap.size, 1, none⟩ = some (.bool true) := (hx1.cell (p := ⟨w.heap.size, 1, none⟩) hM4).trans HM1.out
            go_wp2_with fail
            refine (CS2 _ _ (strIn_one v1 9 #[.string ⟨#[35]⟩, .string ⟨#[37, 58]⟩] _ rfl)).mono ?_
            rintro e v2 ⟨rfl, hv2⟩
            have hx2 : Below w4.heap.size w4 v2 := (hx1.alloc hx1.size _).trans (hv2.mono (hx1.alloc hx1.size _).size)
            go_wp2
            refine ⟨⟨k + 1, by omega, by go_num, HN3, hx2⟩, ?_⟩
            simp [intOf]; omega

          | true =>
            rw [hc2] at CS2
            have CS3 := fun (a3 : Option Addr) (m3 c3 : Nat) (W : World) (hm : (ts.drop (k + 1)).length = m3) (h3 : TzIn W a3 (ts.drop (k + 1))) (h4 : SetIn W B (pn + 1) (ps ++ [⟨#[95, 95, 86, 65, 95, 65, 82, 71, 83, 95, 95]⟩])) => begins_arg (ts.drop (k + 1)) (ps ++ [⟨#[95, 95, 86, 65, 95, 65, 82, 71, 83, 95, 95]⟩]) m3 c3 B (pn + 1) a3 W hm (by rw [← hm, List.length_drop, HN.out]; omega) (fun t ht => HX.out t (List.mem_of_mem_drop ht)) h3 h4
            rw [argQ_argB] at CS3
            have HD : Hid ((ts.drop (k + 1)).length = n - (k + 1)) := Lib.hid (by rw [List.length_drop, HN.out])
            cases hc3 : argB ps (ts.drop (k + 1)) with
            | false =>
              rw [hc3] at CS3
              have HR3 : Hid (R = false) := Lib.hid (by rw [HK2.out]; unfold oneT; rw [hc1, hc2, hc3]; simp)
              clear HK2 hc1 hc2 hc3
              by_cases hcap : cap = k + 1
              · obtain rfl : n = k + 1 := by omega
                subst hcap
                go_wp2_with fail
                refine CS1.mono ?_
                rintro e v1 ⟨rfl, hv1⟩
                have hx1 : Below w4.heap.size w4 v1 := hbT.trans (hv1.mono hbT.size)
                obtain ⟨d0, d1, d2, d3, d4⟩ := box_cells (hv1.block wr.heap.size (by simp; omega)) (hkT1.out)
                have m1 : v1.cell? ⟨w.heap.size, 1, none⟩ = some (.bool true) := (hx1.cell (p := ⟨w.heap.size, 1, none⟩) hM4).trans HM1.out
                have hxr : Below wr.heap.size wr v1 := hbW.trans (hv1.mono hbW.size)
                go_wp2_with fail
                refine (CS2 _ _ (strIn_one v1 9 #[.string ⟨#[35]⟩, .string ⟨#[37, 58]⟩] _ rfl)).mono ?_
                rintro e v2 ⟨rfl, hv2⟩
                have hx2 : Below w4.heap.size w4 v2 := (hx1.alloc hx1.size _).trans (hv2.mono (hx1.alloc hx1.size _).size)
                have hS2 : SetIn v2 B (pn + 1) (ps ++ [⟨#[95, 95, 86, 65, 95, 65, 82, 71, 83, 95, 95]⟩]) := HS4.out v2 hx2
                have hxr2 : Below wr.heap.size wr v2 := (hxr.alloc hxr.size _).trans (hv2.mono (hxr.alloc hxr.size _).size)
                clear d0 d1 d2 d3 d4 m1
                go_wp2_with fail
                refine (CS3 _ 0 _ v2 (by rw [HD.out]; omega) (fun hp => absurd hp (by rw [HD.out]; omega)) hS2).mono ?_
                rintro e v3 ⟨rfl, hv3⟩
                have hx3 : Below w4.heap.size w4 v3 := hx2.trans (hv3.mono hx2.size)
                go_wp2
                go_ret
                exact ⟨rb (by rw [HR3.out]), hB4.trans ((hx3).mono hB4.size)⟩

              · have v5 : ¬ (cap : Int) = (k : Int) + 1 := by omega
                go_wp2_with fail
                refine CS1.mono ?_
                rintro e v1 ⟨rfl, hv1⟩
                have hx1 : Below w4.heap.size w4 v1 := hbT.trans (hv1.mono hbT.size)
                obtain ⟨d0, d1, d2, d3, d4⟩ := box_cells (hv1.block wr.heap.size (by simp; omega)) (hkT1.out)
                have m1 : v1.cell? ⟨w.heap.size, 1, none⟩ = some (.bool true) := (hx1.cell (p := ⟨w.heap.size, 1, none⟩) hM4).trans HM1.out
                have hxr : Below wr.heap.size wr v1 := hbW.trans (hv1.mono hbW.size)
                go_wp2_with fail
                refine (CS2 _ _ (strIn_one v1 9 #[.string ⟨#[35]⟩, .string ⟨#[37, 58]⟩] _ rfl)).mono ?_
                rintro e v2 ⟨rfl, hv2⟩
                have hx2 : Below w4.heap.size w4 v2 := (hx1.alloc hx1.size _).trans (hv2.mono (hx1.alloc hx1.size _).size)
                have hS2 : SetIn v2 B (pn + 1) (ps ++ [⟨#[95, 95, 86, 65, 95, 65, 82, 71, 83, 95, 95]⟩]) := HS4.out v2 hx2
                have hxr2 : Below wr.heap.size wr v2 := (hxr.alloc hxr.size _).trans (hv2.mono (hxr.alloc hxr.size _).size)
                clear d0 d1 d2 d3 d4 m1
                go_wp2_with fail
                refine (CS3 _ (n - (k + 1)) _ v2 HD.out (TzIn.below (tzIn_drop hgw hr' (k + 1)) hxr2) hS2).mono ?_
                rintro e v3 ⟨rfl, hv3⟩
                have hx3 : Below w4.heap.size w4 v3 := hx2.trans (hv3.mono hx2.size)
                go_wp2
                go_ret
                exact ⟨rb (by rw [HR3.out]), hB4.trans ((hx3).mono hB4.size)⟩

            | true =>
              rw [hc3] at CS3
              have HN3 : Hid (R = mayT true vr ps (ts.drop (k + 1))) := Lib.hid (by rw [HK2.out]; unfold oneT; rw [hc1, hc2, hc3]; simp)
              have hne : n ≠ k + 1 := fun e => by
                rw [List.drop_eq_nil_of_le (by rw [HN.out]; omega)] at hc3
                cases hc3
              clear HK2 hc1 hc2 hc3
              have v5 : ¬ (cap : Int) = (k : Int) + 1 := by omega
              go_wp2_with fail
              refine CS1.mono ?_
              rintro e v1 ⟨rfl, hv1⟩
              have hx1 : Below w4.heap.size w4 v1 := hbT.trans (hv1.mono hbT.size)
              obtain ⟨d0, d1, d2, d3, d4⟩ := box_cells (hv1.block wr.heap.size (by simp; omega)) (hkT1.out)
              have m1 : v1.cell? ⟨w.heap.size, 1, none⟩ = some (.bool true) := (hx1.cell (p := ⟨w.heap.size, 1, none⟩) hM4).trans HM1.out
              have hxr : Below wr.heap.size wr v1 := hbW.trans (hv1.mono hbW.size)
              go_wp2_with fail
              refine (CS2 _ _ (strIn_one v1 9 #[.string ⟨#[35]⟩, .string ⟨#[37, 58]⟩] _ rfl)).mono ?_
              rintro e v2 ⟨rfl, hv2⟩
              have hx2 : Below w4.heap.size w4 v2 := (hx1.alloc hx1.size _).trans (hv2.mono (hx1.alloc hx1.size _).size)
              have hS2 : SetIn v2 B (pn + 1) (ps ++ [⟨#[95, 95, 86, 65, 95, 65, 82, 71, 83, 95, 95]⟩]) := HS4.out v2 hx2
              have hxr2 : Below wr.heap.size wr v2 := (hxr.alloc hxr.size _).trans (hv2.mono (hxr.alloc hxr.size _).size)
              clear d0 d1 d2 d3 d4 m1
              go_wp2_with fail
              refine (CS3 _ (n - (k + 1)) _ v2 HD.out (TzIn.below (tzIn_drop hgw hr' (k + 1)) hxr2) hS2).mono ?_
              rintro e v3 ⟨rfl, hv3⟩
              have hx3 : Below w4.heap.size w4 v3 := hx2.trans (hv3.mono hx2.size)
              go_wp2
              refine ⟨⟨k + 1, by omega, by go_num, HN3, hx3⟩, ?_⟩
              simp [intOf]; omega

    · have HR3 : Hid (R = true) := Lib.hid (by rw [HK.out, List.drop_eq_nil_of_le (by rw [HN.out]; omega)]; rfl)
      clear HK
      go_wp2
      go_ret
      exact ⟨rb (by rw [HR3.out]), hB4.trans (hbx.mono hB4.size)⟩


end Go.Proofs.YtaodjipnffgihaaGreat
