/- How deep rows stand: the document's answer, its walk. -/
import Derived.Test.YtpomcdolpmbhdaaDepR
import Derived.IntWalk
import Derived.WalkSmall
import Derived.Deep.LoopGhost
namespace Go.Proofs.Ytpomcdolpmbhdaa
open Go.RowKit

theorem cell1_newS (w : World) (a : Value) (t : TypeId) : ∀ j u, [a][j]? = some u → (w.alloc (.cells #[a] t)).cell? ((⟨w.heap.size, 0, none⟩ : Addr).add j) = some u := by
  intro j u hj
  match j, hj with
  | 0, hj => simp at hj; subst hj; simp [Addr.add]
  | j + 1, hj => simp at hj
theorem bch2 {B : Nat} {a b c : World} (h : Below B a b) (h2 : Below b.heap.size b c) (hB : B ≤ b.heap.size) : Below B a c := h.trans (h2.mono hB)

theorem row_shapeD {w : World} {base : Nat} {e : TypeId} {z : Nat} {v : Value} {n : Nat} {xs : List Value} (h : w.ownsRow base e z v n xs) : ∃ a cap, v = .slice a n cap := row_shape h
theorem row_someD {w : World} {base n : Nat} {e : TypeId} {v : Value} {xs : List Value} (h : w.ownsRow base e 1 v (n + 1) xs) : ∃ g cap, v = .slice (some ⟨g, 0, none⟩) (n + 1) cap ∧ (∀ j u, xs[j]? = some u → w.cell? ⟨g, j, none⟩ = some u) := by
  obtain ⟨a, cap, rfl⟩ := row_shape h
  obtain ⟨g, rfl, _, hc⟩ := row_pos (Nat.succ_pos n) h
  exact ⟨g, cap, rfl, hc⟩

theorem row_cap {w : World} {base n z g cap : Nat} {e : TypeId} {xs : List Value} (h : w.ownsRow base e z (.slice (some ⟨g, 0, none⟩) n cap) n xs) : n ≤ cap := by
  rcases h.2 with ⟨h', _⟩ | ⟨g', cap', cur, h', _, _, hn, _⟩
  · cases h'
  · cases h'; exact hn

def intC (l : List Nat) : List Value := l.map fun (x : Nat) => Value.int .i64 x
theorem intC_app (a b : List Nat) : intC (a ++ b) = intC a ++ intC b := List.map_append ..
theorem intC_len (a : List Nat) : (intC a).length = a.length := List.length_map ..
theorem infoInt : (Try.prog.info? 3).map (fun i => (i.zero, i.size, i.bytes)) = some (some (.int .i64 0), 1, 8) := by kernel_rfl

/-- What a row does to the depths so far and what stands open. -/
def depStep (q : List Nat × List Nat) (k : Nat) : Option (List Nat × List Nat) :=
  if k = 0 then some (q.1 ++ [q.2.length], q.2)
  else if k = 1 then some (q.1 ++ [q.2.length], q.2 ++ [1])
  else match q.2.getLast? with
    | none => none
    | some x => if k < 4 ∧ x = 3 then none else some (q.1 ++ [q.2.length - 1], if k = 4 then q.2.dropLast else q.2.dropLast ++ [k])
def depFold (rs : List Rz) : Option (List Nat × List Nat) := rs.foldl (fun q r => q.bind fun p => depStep p (turnS r)) (some ([], []))
/-- The depths; none: the rows don't nest. -/
def depS (rs : List Rz) : Option (List Nat) := match depFold rs with
  | some (o, []) => some o
  | _ => none
theorem depFold_snoc {rs : List Rz} {k : Nat} {r : Rz} (h : rs[k]? = some r) : depFold (rs.take (k + 1)) = (depFold (rs.take k)).bind fun p => depStep p (turnS r) := by
  unfold depFold
  rw [List.take_add_one, h, List.foldl_append]; rfl
theorem fold_none (l : List Rz) : l.foldl (fun q r => q.bind fun p => depStep p (turnS r)) none = none := by
  induction l with
  | nil => rfl
  | cons r l ih => exact ih
theorem depFold_none {rs : List Rz} {k : Nat} (h : depFold (rs.take k) = none) : depS rs = none := by
  have : depFold rs = none := by
    rw [← List.take_append_drop k rs]
    unfold depFold at h ⊢
    rw [List.foldl_append, h]
    exact fold_none _
  unfold depS; rw [this]
theorem depS_open {rs : List Rz} {o l : List Nat} (h : depFold rs = some (o, l)) (hl : l ≠ []) : depS rs = none := by
  unfold depS
  rw [h]
  cases l with
  | nil => exact absurd rfl hl
  | cons x l => rfl
theorem depS_done {rs : List Rz} {o : List Nat} (h : depFold rs = some (o, [])) : depS rs = some o := by
  unfold depS; rw [h]
theorem step_last {o l0 : List Nat} {x k : Nat} (h : 1 < k) : depStep (o, l0 ++ [x]) k = if k < 4 ∧ x = 3 then none else some (o ++ [l0.length], if k = 4 then l0 else l0 ++ [k]) := by
  unfold depStep
  rw [if_neg (by omega), if_neg (by omega)]
  simp only [List.getLast?_append, List.getLast?_singleton, Option.some_or, List.length_append, List.length_cons, List.length_nil, List.dropLast_concat, Nat.zero_add, Nat.add_sub_cancel]
theorem rv2 {v : Value} {a c : Int} (h : a = c) : Ending.returned (.tuple #[v, .int .i64 a]) = .returned (.tuple #[v, .int .i64 c]) := by rw [h]
def depE (rs : List Rz) : Int := match depS rs with | some _ => 0 | none => 81
theorem depE_none {rs : List Rz} (h : depS rs = none) : depE rs = 81 := by unfold depE; rw [h]
theorem depE_some {rs : List Rz} {o : List Nat} (h : depS rs = some o) : depE rs = 0 := by unfold depE; rw [h]

set_option maxRecDepth 100000 in
set_option maxHeartbeats 8000000 in
theorem rDepths_any (n cap : Nat) (a : Option Addr) (w : World) (hn2 : n * 48 ≤ 140737488355328) (rs : List Rz) (hn : rs.length = n) (hT : RzIn w a rs) :
    Calls Try.prog 17 #[.slice a n cap] w fun e w' => (∃ v, e = .returned (.tuple #[v, .int .i64 (depE rs)]) ∧ (∀ o, depS rs = some o → w'.ownsRow w.heap.size 3 1 v o.length (intC o)) ∧ (depS rs = none → v = .slice none 0 0)) ∧ Below w.heap.size w w' := by
  obtain ⟨i0, hi, hz0, hz1, hz2⟩ := info_parts infoInt
  have EO : ElemOk Try.prog 34 3 i0 (.int .i64 0) 1 8 := ⟨Try.underlying34, hi, hz0, hz1, hz2, rfl, by decide⟩
  have HN := Lib.hid hn
  have HT := Lib.hid hT
  clear hn hT hi hz0 hz1 hz2
  go_enter Try.func17, Try.ntmps17
  go_wp2
  go_loopg [4, 5, 6] n (fun g out last i wx => ∃ (k : Nat) (o l : List Nat), k ≤ n ∧ i = .int .i64 k ∧ g = n - k ∧ Hid (depFold (rs.take k) = some (o, l)) ∧ o.length = k ∧ l.length ≤ k ∧
    wx.ownsRow w.heap.size 3 1 out o.length (intC o) ∧ wx.ownsRow w.heap.size 3 1 last l.length (intC l) ∧ Apart2 out last ∧ Below w.heap.size w wx)
  case atStart => exact ⟨0, [], [], Nat.zero_le _, rfl, rfl, Lib.hid rfl, rfl, Nat.le_refl _, World.ownsRow_nil _ _ _ _, World.ownsRow_nil _ _ _ _, Apart2.nil _, Below.refl _ _⟩
  case round =>
    obtain ⟨k, o, l, hk, rfl, rfl, HD, hol, hll, hO, hL, hA, hbx⟩ := hrel
    by_cases hlt : k < n
    · obtain ⟨r, hr⟩ : ∃ r, rs[k]? = some r := ⟨_, List.getElem?_eq_getElem (by rw [HN.out]; exact hlt)⟩
      obtain ⟨b, ob, rfl, hg1, hrz⟩ := HT.out (by rw [HN.out]; omega)
      obtain ⟨c0, c1, ta, tcap, c2, -⟩ := (hrz.below hbx hg1) k r hr
      have hstep := depFold_snoc hr
      rw [HD.out, Option.bind_some] at hstep
      have CT := fun w' => rturn_any r (.slice ta r.ts.length tcap) w'
      have hK4 := turnS_le r
      obtain ⟨K, hK⟩ : ∃ K, turnS r = K := ⟨_, rfl⟩
      rw [hK] at CT hstep hK4
      have HS := Lib.hid hstep
      clear hr hrz hK hstep HD
      have hbs := hbx.size
      have j1 : (k : Int) < (n : Int) := by omega
      have j2 : (0 : Int) ≤ (k : Int) := by omega
      by_cases hK1 : K ≤ 1
      · obtain ⟨la, lcap, rfl⟩ := row_shapeD hL
        rcases (show K = 0 ∨ K = 1 by omega) with rfl | rfl
        · have HS3 : Hid (depFold (rs.take (k + 1)) = some (o ++ [l.length], l)) := HS
          clear HS
          go_wp2_with fail
          refine (CT _).mono ?_
          rintro e w1 ⟨rfl, hb1⟩
          have hO1 := row_below hO hb1
          have hL1 := row_below hL hb1
          have hB1 := bch2 hbx hb1 hbs
          have hs1 := hB1.size
          go_wp2_with (at_builtin; (refine wpList_fresh EO _ rfl _ _ rfl w.heap.size _ o.length (intC o) rfl (hO1.alloc _) ⟨w1.heap.size, 0, none⟩ 1 1 [.int .i64 l.length] rfl rfl (cell1_newS _ _ _) (by simp [Value.oneCell']) (by unfold maxLen; omega) (by omega) (by simp; omega) ?_; intro v2 w2 hO2 hg2 hf2; have hA2 := hA.fresh hf2 (fun g e => ((hL1.alloc _).lt g e).2); have hL2 := hA.kept (hL1.alloc _) hg2; have hB2 := (hB1.alloc hs1 _).grown hg2 (by simp; omega) (fun j e => (hO1.lt j e).1); have hs2 := hB2.size))
          go_roundg (n - (k + 1))
          case rel => exact ⟨k + 1, o ++ [l.length], l, by omega, by go_num, rfl, HS3, by rw [List.length_append, hol]; rfl, by omega, by rw [List.length_append, intC_app]; exact hO2, hL2, hA2, hB2⟩
          case measure => omega
        · have HS3 : Hid (depFold (rs.take (k + 1)) = some (o ++ [l.length], l ++ [1])) := HS
          clear HS
          go_wp2_with fail
          refine (CT _).mono ?_
          rintro e w1 ⟨rfl, hb1⟩
          have hO1 := row_below hO hb1
          have hL1 := row_below hL hb1
          have hB1 := bch2 hbx hb1 hbs
          have hs1 := hB1.size
          go_wp2_with (at_builtin; first | (refine wpList_fresh EO _ rfl _ _ rfl w.heap.size _ o.length (intC o) rfl (hO1.alloc _) ⟨w1.heap.size, 0, none⟩ 1 1 [.int .i64 l.length] rfl rfl (cell1_newS _ _ _) (by simp [Value.oneCell']) (by unfold maxLen; omega) (by omega) (by simp; omega) ?_; intro v2 w2 hO2 hg2 hf2; have hA2 := hA.fresh hf2 (fun g e => ((hL1.alloc _).lt g e).2); have hL2 := hA.kept (hL1.alloc _) hg2; have hB2 := (hB1.alloc hs1 _).grown hg2 (by simp; omega) (fun j e => (hO1.lt j e).1); have hs2 := hB2.size) | (refine wpList_fresh EO _ rfl _ _ rfl w.heap.size _ l.length (intC l) rfl (hL2.alloc _) ⟨w2.heap.size, 0, none⟩ 1 1 [.int .i64 1] rfl rfl (cell1_newS _ _ _) (by simp [Value.oneCell']) (by unfold maxLen; omega) (by omega) (by simp; omega) ?_; intro v3 w3 hL3 hg3 hf3; have hA3 := hA2.symm.fresh hf3 (fun g e => ((hO2.alloc _).lt g e).2); have hO3 := hA2.symm.kept (hO2.alloc _) hg3; have hB3 := (hB2.alloc hs2 _).grown hg3 (by simp; omega) (fun j e => (hL2.lt j e).1)))
          go_roundg (n - (k + 1))
          case rel => exact ⟨k + 1, o ++ [l.length], l ++ [1], by omega, by go_num, rfl, HS3, by rw [List.length_append, hol]; rfl, by rw [List.length_append]; simp only [List.length_cons, List.length_nil]; omega, by rw [List.length_append, intC_app]; exact hO3, by rw [List.length_append, intC_app]; exact hL3, hA3.symm, hB3⟩
          case measure => omega
      · have i1 : (1 : Int) < (K : Int) := by omega
        have i2 : ((K : Int) == 1) = false := beq_eq_false_iff_ne.2 (by omega)
        rcases List.eq_nil_or_concat l with rfl | ⟨l0, x, rfl⟩
        · obtain ⟨la, lcap, rfl⟩ := row_shapeD hL
          have HE := Lib.hid (depFold_none (rs := rs) (k := k + 1) (by rw [HS.out]; unfold depStep; rw [if_neg (by omega), if_neg (by omega)]; rfl))
          clear HS
          go_wp2_with fail
          refine (CT _).mono ?_
          rintro e w1 ⟨rfl, hb1⟩
          have hO1 := row_below hO hb1
          have hL1 := row_below hL hb1
          have hB1 := bch2 hbx hb1 hbs
          have hs1 := hB1.size
          go_wp2
          go_ret2
          exact ⟨⟨_, rv2 (by rw [depE_none HE.out]), (fun o h => by rw [HE.out] at h; cases h), fun _ => rfl⟩, hB1⟩
        · rw [List.concat_eq_append] at HS hL hll
          have hst := HS.out
          rw [step_last (by omega)] at hst
          have HS2 := Lib.hid hst
          clear hst HS
          have hll2 : l0.length + 1 ≤ k := by rw [List.length_append] at hll; simpa using hll
          rw [show (l0 ++ [x]).length = l0.length + 1 by simp] at hL
          obtain ⟨g, lcap, rfl, hcl⟩ := row_someD hL
          have cx : wr.cell? ⟨g, l0.length, none⟩ = some (.int .i64 (x : Int)) := hcl _ _ (by rw [intC_app, List.getElem?_append_right (by rw [intC_len]; exact Nat.le_refl _), intC_len, Nat.sub_self]; rfl)
          have hgl := (hL.lt g rfl).2
          have hcap : (l0.length : Int) ≤ (lcap : Int) := by have := row_cap hL; omega
          have v1 : wrap64 ((l0.length : Int) + 1 - 1) = (l0.length : Int) := by rw [show (l0.length : Int) + 1 - 1 = (l0.length : Int) by omega]; exact IntWalk.wrap64_in _ (by omega)
          have v2 : (l0.length : Int) + 1 - 1 = (l0.length : Int) := by omega
          have v3 : ((l0.length : Int) + 1 == 0) = false := beq_eq_false_iff_ne.2 (by omega)
          have v4 : (l0.length : Int) < (l0.length : Int) + 1 := by omega
          have v5 : (0 : Int) ≤ (l0.length : Int) := by omega
          by_cases h4 : K = 4
          · subst h4
            have HS3 : Hid (depFold (rs.take (k + 1)) = some (o ++ [l0.length], l0)) := Lib.hid (by rw [HS2.out, if_neg (by omega), if_pos rfl])
            clear HS2
            go_wp2_with fail
            refine (CT _).mono ?_
            rintro e w1 ⟨rfl, hb1⟩
            have hO1 := row_below hO hb1
            have hL1 := row_below hL hb1
            have hB1 := bch2 hbx hb1 hbs
            have hs1 := hB1.size
            have cx1 := (hb1.cell (p := ⟨g, l0.length, none⟩) hgl).trans cx
            have fz1 : w1.frozen? ⟨g, l0.length, none⟩ = false := hL1.frozenAt l0.length
            obtain ⟨hL1s, hgs⟩ := hL1.stored l0.length (.int .i64 (4 : Int))
            have hset : (intC (l0 ++ [x])).set l0.length (.int .i64 (4 : Int)) = intC (l0 ++ [4]) := by
              rw [intC_app, intC_app, List.set_append_right _ _ (by rw [intC_len]; exact Nat.le_refl _), intC_len, Nat.sub_self]; rfl
            rw [hset] at hL1s
            have hO1s := hA.symm.kept hO1 hgs
            have hB1s : Below w.heap.size w (w1.setCell ⟨g, l0.length, none⟩ (.int .i64 (4 : Int))) := hB1.setCell (hL.lt g rfl).1 _
            have hs1s := hB1s.size
            have hszs : (w1.setCell ⟨g, l0.length, none⟩ (.int .i64 (4 : Int))).heap.size = w1.heap.size := by simp [World.setCell]
            have hnew : ∀ j u, [Value.int .i64 (l0.length : Int)][j]? = some u → ((w1.setCell ⟨g, l0.length, none⟩ (.int .i64 (4 : Int))).alloc (.cells #[.int .i64 (l0.length : Int)] 3)).cell? ((⟨w1.heap.size, 0, none⟩ : Addr).add j) = some u := by rw [← hszs]; exact cell1_newS _ _ _
            go_wp2_with (at_builtin; (refine wpList_fresh EO _ rfl _ _ rfl w.heap.size _ o.length (intC o) rfl (hO1s.alloc _) ⟨w1.heap.size, 0, none⟩ 1 1 [.int .i64 (l0.length : Int)] rfl rfl hnew (by simp [Value.oneCell']) (by unfold maxLen; omega) (by omega) (by simp; omega) ?_; intro v2 w2 hO2 hg2 hf2; have hA2 := hA.fresh hf2 (fun g e => ((hL1s.alloc _).lt g e).2); have hL2 := hA.kept (hL1s.alloc _) hg2; have hB2 := (hB1s.alloc hs1s _).grown hg2 (by simp; omega) (fun j e => (hO1s.lt j e).1); have hs2 := hB2.size))
            go_roundg (n - (k + 1))
            case rel =>
              refine ⟨k + 1, o ++ [l0.length], l0, by omega, by go_num, rfl, HS3, by rw [List.length_append, hol]; rfl, by omega, by rw [List.length_append, intC_app]; exact hO2, ?_, hA2, hB2⟩
              rw [intC_app] at hL2
              exact ownsRow_pop (by rw [intC_len, Nat.mul_one]) hL2
            case measure => omega
          · have i4 : (K : Int) < 4 := by omega
            have i5 : ((K : Int) == 4) = false := beq_eq_false_iff_ne.2 (by omega)
            by_cases hx : x = 3
            · have HE := Lib.hid (depFold_none (rs := rs) (k := k + 1) (by rw [HS2.out, if_pos ⟨by omega, hx⟩]))
              have x3 : ((x : Int) == 3) = true := by simp [hx]
              clear HS2
              go_wp2_with fail
              refine (CT _).mono ?_
              rintro e w1 ⟨rfl, hb1⟩
              have hO1 := row_below hO hb1
              have hL1 := row_below hL hb1
              have hB1 := bch2 hbx hb1 hbs
              have hs1 := hB1.size
              have cx1 := (hb1.cell (p := ⟨g, l0.length, none⟩) hgl).trans cx
              go_wp2
              go_ret2
              exact ⟨⟨_, rv2 (by rw [depE_none HE.out]), (fun o h => by rw [HE.out] at h; cases h), fun _ => rfl⟩, hB1⟩
            · have HS3 : Hid (depFold (rs.take (k + 1)) = some (o ++ [l0.length], l0 ++ [K])) := Lib.hid (by rw [HS2.out, if_neg (fun h => hx h.2), if_neg h4])
              have x3 : ((x : Int) == 3) = false := beq_eq_false_iff_ne.2 (by omega)
              clear HS2
              go_wp2_with fail
              refine (CT _).mono ?_
              rintro e w1 ⟨rfl, hb1⟩
              have hO1 := row_below hO hb1
              have hL1 := row_below hL hb1
              have hB1 := bch2 hbx hb1 hbs
              have hs1 := hB1.size
              have cx1 := (hb1.cell (p := ⟨g, l0.length, none⟩) hgl).trans cx
              have fz1 : w1.frozen? ⟨g, l0.length, none⟩ = false := hL1.frozenAt l0.length
              obtain ⟨hL1s, hgs⟩ := hL1.stored l0.length (.int .i64 (K : Int))
              have hset : (intC (l0 ++ [x])).set l0.length (.int .i64 (K : Int)) = intC (l0 ++ [K]) := by
                rw [intC_app, intC_app, List.set_append_right _ _ (by rw [intC_len]; exact Nat.le_refl _), intC_len, Nat.sub_self]; rfl
              rw [hset] at hL1s
              have hO1s := hA.symm.kept hO1 hgs
              have hB1s : Below w.heap.size w (w1.setCell ⟨g, l0.length, none⟩ (.int .i64 (K : Int))) := hB1.setCell (hL.lt g rfl).1 _
              have hs1s := hB1s.size
              have hszs : (w1.setCell ⟨g, l0.length, none⟩ (.int .i64 (K : Int))).heap.size = w1.heap.size := by simp [World.setCell]
              have hnew : ∀ j u, [Value.int .i64 (l0.length : Int)][j]? = some u → ((w1.setCell ⟨g, l0.length, none⟩ (.int .i64 (K : Int))).alloc (.cells #[.int .i64 (l0.length : Int)] 3)).cell? ((⟨w1.heap.size, 0, none⟩ : Addr).add j) = some u := by rw [← hszs]; exact cell1_newS _ _ _
              go_wp2_with (at_builtin; (refine wpList_fresh EO _ rfl _ _ rfl w.heap.size _ o.length (intC o) rfl (hO1s.alloc _) ⟨w1.heap.size, 0, none⟩ 1 1 [.int .i64 (l0.length : Int)] rfl rfl hnew (by simp [Value.oneCell']) (by unfold maxLen; omega) (by omega) (by simp; omega) ?_; intro v2 w2 hO2 hg2 hf2; have hA2 := hA.fresh hf2 (fun g e => ((hL1s.alloc _).lt g e).2); have hL2 := hA.kept (hL1s.alloc _) hg2; have hB2 := (hB1s.alloc hs1s _).grown hg2 (by simp; omega) (fun j e => (hO1s.lt j e).1); have hs2 := hB2.size))
              go_roundg (n - (k + 1))
              case rel => exact ⟨k + 1, o ++ [l0.length], l0 ++ [K], by omega, by go_num, rfl, HS3, by rw [List.length_append, hol]; rfl, by rw [List.length_append]; simp only [List.length_cons, List.length_nil]; omega, by rw [List.length_append, intC_app]; exact hO2, by rw [List.length_append]; exact hL2, hA2, hB2⟩
              case measure => omega
    · obtain rfl : k = n := by omega
      have HD2 := Lib.hid (show depFold rs = some (o, l) by rw [← HD.out, List.take_of_length_le (by rw [HN.out]; exact Nat.le_refl _)])
      obtain ⟨la, lcap, rfl⟩ := row_shapeD hL
      cases l with
      | nil =>
        have HE := Lib.hid (depS_done HD2.out)
        go_wp2
        go_ret2
        exact ⟨⟨_, rv2 (by rw [depE_some HE.out]), (fun o' h => by rw [HE.out] at h; cases h; exact hO), fun h => by rw [HE.out] at h; cases h⟩, hbx⟩
      | cons x l =>
        have HE := Lib.hid (depS_open HD2.out (by simp))
        have hlp : (0 : Int) < ((x :: l).length : Int) := by rw [List.length_cons]; omega
        go_wp2
        go_ret2
        exact ⟨⟨_, rv2 (by rw [depE_none HE.out]), (fun o h => by rw [HE.out] at h; cases h), fun _ => rfl⟩, hbx⟩

end Go.Proofs.Ytpomcdolpmbhdaa
