/- Whether two lists of rows say the same: the document's answer. -/
import Derived.Test.YtpomcdolpmbhdaaLessR
namespace Go.Proofs.Ytpomcdolpmbhdaa
open Go.RowKit

theorem saysS_len (r : Rz) : (saysS r).length ≤ r.ts.length := by
  have h := bareS_len r.ts
  unfold saysS bareL
  split
  · split <;> rw [List.length_drop] <;> omega
  · exact h

def tokAl (s : Bool) (k : Nat) (t u : Tz) : Bool := t.k == u.k && t.tx.toList == u.tx.toList && !(!(t.sp == u.sp) && decide (0 < k) && s)
def toksAl (s : Bool) : Nat → List Tz → List Tz → Bool
  | k, t :: l, u :: m => tokAl s k t u && toksAl s (k + 1) l m
  | _, _, _ => true
def defB (r : Rz) : Bool := r.d && r.nm.toList == [100, 101, 102, 105, 110, 101]
def rowAl (keep : Bool) (p q : Rz) : Bool := p.d == q.d && p.nm.toList == q.nm.toList && (saysS p).length == (saysS q).length && toksAl (keep || defB p) 0 (saysS p) (saysS q)
def rowsAl (keep : Bool) : List Rz → List Rz → Bool
  | p :: x, q :: y => rowAl keep p q && rowsAl keep x y
  | _, _ => true
/-- Do two lists of rows say the same? -/
def alikeS (a b : List Rz) (keep : Bool) : Bool := (lessS a).length == (lessS b).length && rowsAl keep (lessS a) (lessS b)

theorem toksAl_step {s : Bool} {k : Nat} {l m : List Tz} {t u : Tz} (h : l[k]? = some t) (h2 : m[k]? = some u) : toksAl s k (l.drop k) (m.drop k) = (tokAl s k t u && toksAl s (k + 1) (l.drop (k + 1)) (m.drop (k + 1))) := by
  have e1 : l.drop k = t :: l.drop (k + 1) := by
    rw [List.drop_eq_getElem_cons (List.getElem?_eq_some_iff.1 h).1, (List.getElem?_eq_some_iff.1 h).2]
  have e2 : m.drop k = u :: m.drop (k + 1) := by
    rw [List.drop_eq_getElem_cons (List.getElem?_eq_some_iff.1 h2).1, (List.getElem?_eq_some_iff.1 h2).2]
  rw [e1, e2, toksAl]
theorem toksAl_end {s : Bool} {k : Nat} {l m : List Tz} (h : l.length ≤ k) : toksAl s k (l.drop k) (m.drop k) = true := by
  rw [List.drop_eq_nil_of_le h]
  unfold toksAl
  rfl
theorem rowsAl_step {keep : Bool} {k : Nat} {x y : List Rz} {p q : Rz} (h : x[k]? = some p) (h2 : y[k]? = some q) : rowsAl keep (x.drop k) (y.drop k) = (rowAl keep p q && rowsAl keep (x.drop (k + 1)) (y.drop (k + 1))) := by
  have e1 : x.drop k = p :: x.drop (k + 1) := by
    rw [List.drop_eq_getElem_cons (List.getElem?_eq_some_iff.1 h).1, (List.getElem?_eq_some_iff.1 h).2]
  have e2 : y.drop k = q :: y.drop (k + 1) := by
    rw [List.drop_eq_getElem_cons (List.getElem?_eq_some_iff.1 h2).1, (List.getElem?_eq_some_iff.1 h2).2]
  rw [e1, e2, rowsAl]
theorem rowsAl_end {keep : Bool} {k : Nat} {x y : List Rz} (h : x.length ≤ k) : rowsAl keep (x.drop k) (y.drop k) = true := by
  rw [List.drop_eq_nil_of_le h]
  unfold rowsAl
  rfl

set_option maxRecDepth 100000 in
set_option maxHeartbeats 8000000 in
theorem rAlike_any (n1 n2 c1 c2 : Nat) (a1 a2 : Option Addr) (keep : Bool) (w : World) (rs qs : List Rz) (hn1 : rs.length = n1) (hn2 : qs.length = n2) (hb1 : n1 * 48 ≤ 140737488355328) (hb2 : n2 * 48 ≤ 140737488355328)
    (ht1 : ∀ r ∈ rs, r.ts.length * 48 ≤ 140737488355328) (ht2 : ∀ r ∈ qs, r.ts.length * 48 ≤ 140737488355328) (hT1 : RzIn w a1 rs) (hT2 : RzIn w a2 qs) :
    Calls Try.prog 20 #[.slice a1 n1 c1, .slice a2 n2 c2, .bool keep] w fun e w' => e = .returned (.bool (alikeS rs qs keep)) ∧ Below w.heap.size w w' := by
  have C1 := rless_any n1 c1 a1 w hb1 rs hn1 ht1 hT1
  have C2 := fun (w' : World) (hb : Below w.heap.size w w') => rless_any n2 c2 a2 w' hb2 qs hn2 ht2 (hT2.below hb)
  have HS1 := Lib.hid (fun (r : Rz) (h : r ∈ lessS rs) => ht1 r (List.mem_filter.1 h).1)
  have HS2 := Lib.hid (fun (r : Rz) (h : r ∈ lessS qs) => ht2 r (List.mem_filter.1 h).1)
  have hl1 : (lessS rs).length * 48 ≤ 140737488355328 := Nat.le_trans (Nat.mul_le_mul_right 48 (lessS_len rs)) (by rw [hn1]; exact hb1)
  have hl2 : (lessS qs).length * 48 ≤ 140737488355328 := Nat.le_trans (Nat.mul_le_mul_right 48 (lessS_len qs)) (by rw [hn2]; exact hb2)
  have HA : Hid (alikeS rs qs keep = ((lessS rs).length == (lessS qs).length && rowsAl keep (lessS rs) (lessS qs))) := Lib.hid rfl
  obtain ⟨X, hX⟩ : ∃ X, lessS rs = X := ⟨_, rfl⟩
  obtain ⟨Y, hY⟩ : ∃ Y, lessS qs = Y := ⟨_, rfl⟩
  obtain ⟨R, hR⟩ : ∃ R, alikeS rs qs keep = R := ⟨_, rfl⟩
  rw [hX] at C1 HS1 HA hl1
  rw [hY] at C2 HS2 HA hl2
  rw [hR] at HA ⊢
  clear hX hY hR hT1 hT2 ht1 ht2
  go_enter Try.func20, Try.ntmps20
  go_wp2_with fail
  refine C1.mono ?_
  rintro e w1 ⟨⟨v1, vs1, rfl, hp1⟩, hw1⟩
  go_wp2_with fail
  refine (C2 _ hw1).mono ?_
  rintro e w2 ⟨⟨v2, vs2, rfl, hp2⟩, hw2⟩
  have hwB := hw1.trans (hw2.mono hw1.size)
  obtain ⟨ax, cx, rfl, hI1⟩ := hp1.in hw1.size
  obtain ⟨ay, cy, rfl, hI2⟩ := hp2.in hw2.size
  have HI1 := Lib.hid (hI1.below hw2)
  have HI2 := Lib.hid hI2
  clear hp1 hp2 hI1 hI2 C1 C2
  by_cases hlen : X.length = Y.length
  · have HA2 : Hid (R = rowsAl keep X Y) := Lib.hid (by rw [HA.out, hlen]; simp)
    obtain ⟨n, hn⟩ : ∃ n, X.length = n := ⟨_, rfl⟩
    have hm : Y.length = n := by omega
    rw [hn] at hl1
    have HX := Lib.hid hn
    have HY := Lib.hid hm
    rw [hn, hm]
    have hne : ((n : Int) != (n : Int)) = false := by simp
    clear HA hlen hl2 hn hm
    go_wp2
    go_loopg [9] n (fun gh i wx => ∃ k : Nat, k ≤ n ∧ i = .int .i64 k ∧ gh = n - k ∧ Hid (R = rowsAl keep (X.drop k) (Y.drop k)) ∧ Below w2.heap.size w2 wx)
    case atStart => exact ⟨0, Nat.zero_le _, rfl, rfl, HA2, Below.refl _ _⟩
    case round =>
      obtain ⟨k, hk, rfl, rfl, HK, hbx⟩ := hrel
      by_cases hlt : k < n
      · obtain ⟨p, hp⟩ : ∃ r, X[k]? = some r := ⟨_, List.getElem?_eq_getElem (by rw [HX.out]; exact hlt)⟩
        obtain ⟨q, hq⟩ : ∃ r, Y[k]? = some r := ⟨_, List.getElem?_eq_getElem (by rw [HY.out]; exact hlt)⟩
        obtain ⟨b1, o1, rfl, hg1, hz1⟩ := HI1.out (by rw [HX.out]; omega)
        obtain ⟨b2, o2, rfl, hg2, hz2⟩ := HI2.out (by rw [HY.out]; omega)
        obtain ⟨c0, c1', t1, tc1, c2', hk1⟩ := (hz1.below hbx hg1) k p hp
        obtain ⟨d0, d1, t2, tc2, d2, hk2⟩ := (hz2.below hbx hg2) k q hq
        have hpl := HS1.out p (List.mem_of_getElem? hp)
        have hql := HS2.out q (List.mem_of_getElem? hq)
        have hst := HK.out
        rw [rowsAl_step hp hq] at hst
        have HK2 := Lib.hid hst
        have hbs := hbx.size
        have CP := rSays_any p t1 tc1 wr hpl (hk1.mono hbs)
        have HQT := Lib.hid hk2
        have hc : ∀ (W : World), Below wr.heap.size wr W → W.cell? ⟨b1, o1 + k * 3, none⟩ = some (.bool p.d) ∧ W.cell? ⟨b1, o1 + k * 3 + 1, none⟩ = some (.string p.nm) ∧ W.cell? ⟨b2, o2 + k * 3, none⟩ = some (.bool q.d) ∧ W.cell? ⟨b2, o2 + k * 3 + 1, none⟩ = some (.string q.nm) ∧ W.cell? ⟨b2, o2 + k * 3 + 2, none⟩ = some (.slice t2 q.ts.length tc2) := fun W hW => by
          have e1 : ∀ z, W.cell? ⟨b1, z, none⟩ = wr.cell? ⟨b1, z, none⟩ := fun z => hW.cell (p := ⟨b1, z, none⟩) (Nat.lt_of_lt_of_le hg1 hbs)
          have e2 : ∀ z, W.cell? ⟨b2, z, none⟩ = wr.cell? ⟨b2, z, none⟩ := fun z => hW.cell (p := ⟨b2, z, none⟩) (Nat.lt_of_lt_of_le hg2 hbs)
          exact ⟨(e1 _).trans c0, (e1 _).trans c1', (e2 _).trans d0, (e2 _).trans d1, (e2 _).trans d2⟩
        have HC := Lib.hid hc
        have j1 : (k : Int) < (n : Int) := by omega
        have j0 : (0 : Int) ≤ (k : Int) := by omega
        obtain ⟨LP, hLP⟩ : ∃ L, saysS p = L := ⟨_, rfl⟩
        obtain ⟨LQ, hLQ⟩ : ∃ L, saysS q = L := ⟨_, rfl⟩
        have HRA : Hid (rowAl keep p q = (p.d == q.d && p.nm.toList == q.nm.toList && LP.length == LQ.length && toksAl (keep || defB p) 0 LP LQ)) := Lib.hid (by unfold rowAl; rw [hLP, hLQ])
        rw [hLP] at CP
        have hLs : LP.length ≤ 140737488355328 := by
          have := saysS_len p
          rw [hLP] at this; omega
        clear hp hq hz1 hz2 hk1 hk2 hst HK hc hLP
        go_wp2_with fail
        refine CP.mono ?_
        rintro e w3 ⟨⟨al, cl, rfl, hl3⟩, hb3⟩
        obtain ⟨_, _, d0', d1', d2'⟩ := HC.out w3 hb3
        have CQ := rSays_any q t2 tc2 w3 hql (by exact (HQT.out.below (hb3.mono hbs)).mono (Nat.le_trans hbs hb3.size))
        rw [hLQ] at CQ
        clear hLQ c0 c1' c2' d0 d1 d2 CP
        go_wp2_with fail
        refine CQ.mono ?_
        rintro e w4 ⟨⟨am, cm, rfl, hm4⟩, hb4⟩
        have hb34 : Below wr.heap.size wr w4 := hb3.trans (hb4.mono hb3.size)
        obtain ⟨e0, e1, f0, f1, f2⟩ := HC.out w4 hb34
        have hB4 : Below w.heap.size w w4 := hwB.trans ((hbx.mono hwB.size).trans (hb34.mono (Nat.le_trans hwB.size hbs)))
        have hx4 : Below w2.heap.size w2 w4 := hbx.trans (hb34.mono hbs)
        have HL3 := Lib.hid (hl3.below hb4)
        have HM4 := Lib.hid hm4
        clear hl3 hm4 CQ d0' d1' d2' HC HQT
        by_cases hdd : p.d = q.d
        · have df : (!(p.d == q.d)) = false := by simp [hdd]
          by_cases hnn : (p.nm.toList == q.nm.toList) = true
          · have nf : (!(p.nm.toList == q.nm.toList)) = false := by rw [hnn]; rfl
            by_cases hll : LP.length = LQ.length
            · have lf : ((LP.length : Int) != (LQ.length : Int)) = false := by rw [hll]; simp
              have HK3 : Hid (R = (toksAl (keep || defB p) 0 (LP.drop 0) (LQ.drop 0) && rowsAl keep (X.drop (k + 1)) (Y.drop (k + 1)))) := Lib.hid (by rw [HK2.out, HRA.out, hnn, hll, hdd]; simp)
              have HLL := Lib.hid hll
              clear HK2 HRA hdd hnn hll
              go_wp2
              go_big_quiet (fail)
              go_wp2
              go_loopw [12] (fun i wx => ∃ j : Nat, j ≤ LP.length ∧ i = .int .i64 j ∧ Hid (R = (toksAl (keep || defB p) j (LP.drop j) (LQ.drop j) && rowsAl keep (X.drop (k + 1)) (Y.drop (k + 1)))) ∧ ∃ x, wx = w4.drewN x) (fun i _ => LP.length - (intOf i).toNat)
              case atStart => exact ⟨0, Nat.zero_le _, rfl, HK3, _, rfl⟩
              case round =>
                obtain ⟨j, hj, rfl, HJ0, x, rfl⟩ := hrel
                by_cases hjl : j < LP.length
                · obtain ⟨t, ht⟩ : ∃ t, LP[j]? = some t := ⟨_, List.getElem?_eq_getElem hjl⟩
                  obtain ⟨u, hu⟩ : ∃ t, LQ[j]? = some t := ⟨_, List.getElem?_eq_getElem (by rw [← HLL.out]; exact hjl)⟩
                  obtain ⟨gl, ol, rfl, _, hrl⟩ := HL3.out (by omega)
                  obtain ⟨gm, om, rfl, _, hrm⟩ := HM4.out (by rw [← HLL.out]; omega)
                  obtain ⟨l0, l1, -, -, l4⟩ := hrl j t ht
                  obtain ⟨m0, m1, -, -, m4⟩ := hrm j u hu
                  have hJ := HJ0.out
                  rw [toksAl_step ht hu, Bool.and_assoc] at hJ
                  have HJ := Lib.hid hJ
                  clear hrl hrm ht hu hJ HJ0
                  have i1 : (j : Int) < (LP.length : Int) := by omega
                  have i2 : (j : Int) < (LQ.length : Int) := by have := HLL.out; omega
                  have i0 : (0 : Int) ≤ (j : Int) := by omega
                  by_cases hkd : t.k = u.k
                  · have kf : (t.k != u.k) = false := by simp [hkd]
                    by_cases htx : (t.tx.toList == u.tx.toList) = true
                    · have tf : (!(t.tx.toList == u.tx.toList)) = false := by rw [htx]; rfl
                      have HG0 : tokAl (keep || defB p) j t u = !(!(t.sp == u.sp) && decide (0 < j) && (keep || defB p)) := by unfold tokAl; rw [htx, hkd]; simp
                      clear hkd
                      by_cases hsp : t.sp = u.sp
                      · have sf : (!(t.sp == u.sp)) = false := by simp [hsp]
                        have HG : tokAl (keep || defB p) j t u = true := by rw [HG0, sf]; rfl
                        clear HG0 hsp
                        have HN : Hid (R = (toksAl (keep || defB p) (j + 1) (LP.drop (j + 1)) (LQ.drop (j + 1)) && rowsAl keep (X.drop (k + 1)) (Y.drop (k + 1)))) := Lib.hid (by rw [HJ.out, HG, Bool.true_and])
                        clear HJ HG
                        go_wp2
                        go_big_quiet (fail)
                        go_wp2
                        go_big_quiet (fail)
                        go_wp2
                        refine ⟨⟨j + 1, by omega, by go_num, HN, _, rfl⟩, ?_⟩
                        simp [intOf]; omega
                      · have sf : (!(t.sp == u.sp)) = true := by simp [hsp]
                        by_cases hj0 : 0 < j
                        · have jf : (0 : Int) < (j : Int) := by omega
                          cases keep with
                          | true =>
                            have HG : tokAl (true || defB p) j t u = false := by rw [HG0, sf]; simp [hj0]
                            clear HG0 hsp
                            have HF : Hid (R = false) := Lib.hid (by rw [HJ.out, HG]; rfl)
                            clear HJ HG
                            go_wp2
                            go_big_quiet (fail)
                            go_wp2
                            go_big_quiet (fail)
                            go_wp2
                            go_ret
                            exact ⟨rb (by rw [HF.out]), by first | exact below_drewN hB4 _ | exact below_drewN (below_drewN hB4 _) _ | exact below_drewN (below_drewN (below_drewN hB4 _) _) _⟩
                          | false =>
                            cases hpd : p.d with
                            | false =>
                              have HG : tokAl (false || defB p) j t u = true := by rw [HG0]; unfold defB; rw [hpd]; simp
                              clear HG0 hsp
                              have HN : Hid (R = (toksAl (false || defB p) (j + 1) (LP.drop (j + 1)) (LQ.drop (j + 1)) && rowsAl false (X.drop (k + 1)) (Y.drop (k + 1)))) := Lib.hid (by rw [HJ.out, HG, Bool.true_and])
                              clear HJ HG
                              go_wp2
                              go_big_quiet (fail)
                              go_wp2
                              go_big_quiet (fail)
                              go_wp2
                              refine ⟨⟨j + 1, by omega, by go_num, HN, _, rfl⟩, ?_⟩
                              simp [intOf]; omega
                            | true =>
                              cases hnd : (p.nm.toList == [100, 101, 102, 105, 110, 101]) with
                              | false =>
                                have HG : tokAl (false || defB p) j t u = true := by rw [HG0]; unfold defB; rw [hpd, hnd]; simp
                                clear HG0 hsp
                                have HN : Hid (R = (toksAl (false || defB p) (j + 1) (LP.drop (j + 1)) (LQ.drop (j + 1)) && rowsAl false (X.drop (k + 1)) (Y.drop (k + 1)))) := Lib.hid (by rw [HJ.out, HG, Bool.true_and])
                                clear HJ HG
                                go_wp2
                                go_big_quiet (fail)
                                go_wp2
                                go_big_quiet (fail)
                                go_wp2
                                refine ⟨⟨j + 1, by omega, by go_num, HN, _, rfl⟩, ?_⟩
                                simp [intOf]; omega
                              | true =>
                                have HG : tokAl (false || defB p) j t u = false := by rw [HG0, sf]; unfold defB; rw [hpd, hnd]; simp [hj0]
                                clear HG0 hsp
                                have HF : Hid (R = false) := Lib.hid (by rw [HJ.out, HG]; rfl)
                                clear HJ HG
                                go_wp2
                                go_big_quiet (fail)
                                go_wp2
                                go_big_quiet (fail)
                                go_wp2
                                go_ret
                                exact ⟨rb (by rw [HF.out]), by first | exact below_drewN hB4 _ | exact below_drewN (below_drewN hB4 _) _ | exact below_drewN (below_drewN (below_drewN hB4 _) _) _⟩
                        · have jf : ¬ (0 : Int) < (j : Int) := by omega
                          have jg : decide ((0 : Int) < (j : Int)) = false := decide_eq_false jf
                          have HG : tokAl (keep || defB p) j t u = true := by rw [HG0]; simp [hj0]
                          clear HG0 hsp
                          have HN : Hid (R = (toksAl (keep || defB p) (j + 1) (LP.drop (j + 1)) (LQ.drop (j + 1)) && rowsAl keep (X.drop (k + 1)) (Y.drop (k + 1)))) := Lib.hid (by rw [HJ.out, HG, Bool.true_and])
                          clear HJ HG
                          go_wp2
                          go_big_quiet (fail)
                          go_wp2
                          go_big_quiet (fail)
                          go_wp2
                          refine ⟨⟨j + 1, by omega, by go_num, HN, _, rfl⟩, ?_⟩
                          simp [intOf]; omega
                    · have tf : (!(t.tx.toList == u.tx.toList)) = true := by simpa using htx
                      have HF : Hid (R = false) := Lib.hid (by rw [HJ.out]; unfold tokAl; rw [Bool.eq_false_iff.2 htx]; simp)
                      clear HJ hkd htx
                      go_wp2
                      go_big_quiet (fail)
                      go_wp2
                      go_ret
                      exact ⟨rb (by rw [HF.out]), by first | exact below_drewN hB4 _ | exact below_drewN (below_drewN hB4 _) _ | exact below_drewN (below_drewN (below_drewN hB4 _) _) _⟩
                  · have kf : (t.k != u.k) = true := by simp [hkd]
                    have HF : Hid (R = false) := Lib.hid (by rw [HJ.out]; unfold tokAl; rw [show (t.k == u.k) = false by simpa using hkd]; simp)
                    clear HJ hkd
                    go_wp2
                    go_big_quiet (fail)
                    go_wp2
                    go_ret
                    exact ⟨rb (by rw [HF.out]), by first | exact below_drewN hB4 _ | exact below_drewN (below_drewN hB4 _) _ | exact below_drewN (below_drewN (below_drewN hB4 _) _) _⟩
                · have HN : Hid (R = rowsAl keep (X.drop (k + 1)) (Y.drop (k + 1))) := Lib.hid (by rw [HJ0.out, toksAl_end (by omega), Bool.true_and])
                  clear HJ0
                  go_wp2
                  go_roundg (n - (k + 1))
                  case rel => exact ⟨k + 1, by omega, by go_num, rfl, HN, below_drewN hx4 _⟩
                  case measure => omega
            · have lf : ((LP.length : Int) != (LQ.length : Int)) = true := by rw [bne_iff_ne]; omega
              have HF : Hid (R = false) := Lib.hid (by rw [HK2.out, HRA.out]; simp [hll])
              clear HK2 HRA hdd hnn hll
              go_wp2
              go_big_quiet (fail)
              go_wp2
              go_ret
              exact ⟨rb (by rw [HF.out]), by first | exact below_drewN hB4 _ | exact below_drewN (below_drewN hB4 _) _ | exact below_drewN (below_drewN (below_drewN hB4 _) _) _⟩
          · have nf : (!(p.nm.toList == q.nm.toList)) = true := by simpa using hnn
            have HF : Hid (R = false) := Lib.hid (by rw [HK2.out, HRA.out, Bool.eq_false_iff.2 hnn]; simp)
            clear HK2 HRA hdd hnn
            go_wp2
            go_big_quiet (fail)
            go_wp2
            go_ret
            exact ⟨rb (by rw [HF.out]), by first | exact below_drewN hB4 _ | exact below_drewN (below_drewN hB4 _) _ | exact below_drewN (below_drewN (below_drewN hB4 _) _) _⟩
        · have df : (!(p.d == q.d)) = true := by simp [hdd]
          have HF : Hid (R = false) := Lib.hid (by rw [HK2.out, HRA.out, show (p.d == q.d) = false by simpa using hdd]; simp)
          clear HK2 HRA hdd
          go_wp2
          go_big_quiet (fail)
          go_wp2
          go_ret
          exact ⟨rb (by rw [HF.out]), by first | exact below_drewN hB4 _ | exact below_drewN (below_drewN hB4 _) _ | exact below_drewN (below_drewN (below_drewN hB4 _) _) _⟩
      · have HF : Hid (R = true) := Lib.hid (by rw [HK.out, rowsAl_end (by rw [HX.out]; omega)])
        go_wp2
        go_ret
        exact ⟨rb (by rw [HF.out]), hwB.trans (hbx.mono hwB.size)⟩
  · have HA2 : Hid (R = false) := Lib.hid (by rw [HA.out]; simp [hlen])
    have hne : ((X.length : Int) != (Y.length : Int)) = true := by rw [bne_iff_ne]; omega
    clear HA hlen
    go_wp2
    go_ret
    exact ⟨rb (by rw [HA2.out]), hwB⟩

end Go.Proofs.Ytpomcdolpmbhdaa
