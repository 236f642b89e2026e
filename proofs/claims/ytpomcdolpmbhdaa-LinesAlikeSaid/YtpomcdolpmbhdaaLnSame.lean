/- lines.sameRow: do two rows say the same. -/
import Derived.Test.YtpomcdolpmbhdaaLnTells
import Derived.Test.YtpomcdolpmbhdaaLnRow
import Derived.Deep.RegionHeld3
import Derived.Deep.DeepCutAuto
import Derived.Deep.RegionWith
namespace Go.Proofs.Ytpomcdolpmbhdaa
open Go.RowKit Go.Shelf

theorem defB_name (p : Rz) : ((nameS p).toList == [100, 101, 102, 105, 110, 101]) = defB p := by
  unfold nameS defB
  cases p.d
  · simp only [Bool.false_and]; exact (by decide +kernel : ((⟨#[]⟩ : ByteArray).toList == [100, 101, 102, 105, 110, 101]) = false)
  · rfl

theorem said2 {a b : Int} {s t : List UInt8} {W : World} : (if a = b then if s = t then Result.ok (Next.value (.bool false)) W else Result.ok (Next.value (.bool true)) W else Result.ok (Next.value (.bool true)) W) = Result.ok (Next.value (.bool (!(a == b && s == t && (false == false))))) W := by
  repeat split
  all_goals simp_all
theorem said3 {a b : Int} {s t : List UInt8} {x y : Bool} {W : World} : (if a = b then if s = t then if x = y then Result.ok (Next.value (.bool false)) W else Result.ok (Next.value (.bool true)) W else Result.ok (Next.value (.bool true)) W else Result.ok (Next.value (.bool true)) W) = Result.ok (Next.value (.bool (!(a == b && s == t && x == y)))) W := by
  repeat split
  all_goals simp_all

set_option maxRecDepth 100000 in
set_option maxHeartbeats 8000000 in
theorem sameRow_any (p q : Rz) (t1 t2 : Option Addr) (tc1 tc2 : Nat) (keep : Bool) (w : World) (hl1 : p.ts.length * 48 ≤ 140737488355328) (hl2 : q.ts.length * 48 ≤ 140737488355328) (hx1 : ∀ t ∈ p.ts, t.tx.size ≤ 281474976710656) (hx2 : ∀ t ∈ q.ts, t.tx.size ≤ 281474976710656) (ht1 : TzIn w t1 p.ts) (ht2 : TzIn w t2 q.ts) :
    Calls Try.prog 35 #[.agg #[.bool p.d, .string p.nm, .slice t1 p.ts.length tc1], .agg #[.bool q.d, .string q.nm, .slice t2 q.ts.length tc2], .bool keep] w fun e w' => e = .returned (.bool (rowAl keep p q)) ∧ Below w.heap.size w w' := by
  have hb0 := below2 w (.cells #[.bool p.d, .string p.nm, .slice t1 p.ts.length tc1] 28) (.cells #[.bool q.d, .string q.nm, .slice t2 q.ts.length tc2] 28)
  have HRA : Hid (rowAl keep p q = (p.d == q.d && p.nm.toList == q.nm.toList && (saysS p).length == (saysS q).length && toksAl (keep || defB p) 0 (saysS p) (saysS q))) := Lib.hid rfl
  have CP := fun (w' : World) (hb : Below w.heap.size w w') => says_any p t1 tc1 w' hl1 hx1 (ht1.below hb)
  have CQ := fun (w' : World) (hb : Below w.heap.size w w') => says_any q t2 tc2 w' hl2 hx2 (ht2.below hb)
  clear hx1 hx2 ht1 ht2
  obtain ⟨W2, hW2⟩ : ∃ W2, (w.alloc (.cells #[.bool p.d, .string p.nm, .slice t1 p.ts.length tc1] 28)).alloc (.cells #[.bool q.d, .string q.nm, .slice t2 q.ts.length tc2] 28) = W2 := ⟨_, rfl⟩
  have hP2 : W2.heap[w.heap.size]? = some (.cells #[.bool p.d, .string p.nm, .slice t1 p.ts.length tc1] 28 (0, 0)) := by
    rw [← hW2]; exact (Below.heap_alloc _ _ _ (by simp)).trans (World.alloc_heap_new w _)
  have hQ2 : W2.heap[w.heap.size + 1]? = some (.cells #[.bool q.d, .string q.nm, .slice t2 q.ts.length tc2] 28 (0, 0)) := by
    have := World.alloc_heap_new (w.alloc (.cells #[.bool p.d, .string p.nm, .slice t1 p.ts.length tc1] 28)) (.cells #[.bool q.d, .string q.nm, .slice t2 q.ts.length tc2] 28)
    rw [World.size_alloc, hW2] at this; exact this
  have hs2 : W2.heap.size = w.heap.size + 2 := by rw [← hW2]; simp
  rw [hW2] at hb0
  have hF : ∀ W : World, Below W2.heap.size W2 W → (W.cell? ⟨w.heap.size, 0, none⟩ = some (.bool p.d) ∧ W.cell? ⟨w.heap.size, 1, none⟩ = some (.string p.nm) ∧ W.cell? ⟨w.heap.size, 2, none⟩ = some (.slice t1 p.ts.length tc1) ∧ W.cell? ⟨w.heap.size + 1, 0, none⟩ = some (.bool q.d) ∧ W.cell? ⟨w.heap.size + 1, 1, none⟩ = some (.string q.nm) ∧ W.cell? ⟨w.heap.size + 1, 2, none⟩ = some (.slice t2 q.ts.length tc2)) ∧ Below w.heap.size w W := fun W hW => by
    obtain ⟨a0, a1, a2, -⟩ := row_facts ((hW.block w.heap.size (by omega)).trans hP2)
    obtain ⟨b0, b1, b2, -⟩ := row_facts ((hW.block (w.heap.size + 1) (by omega)).trans hQ2)
    exact ⟨⟨a0, a1, a2, b0, b1, b2⟩, hb0.trans (hW.mono (by omega))⟩
  have HF := Lib.hid hF
  obtain ⟨⟨e0, e1, e2, f0, f1, f2⟩, -⟩ := hF W2 (Below.refl _ _)
  have HS2 := Lib.hid hs2
  clear hP2 hQ2 hs2 hF
  obtain ⟨LP, hLP⟩ : ∃ L, saysS p = L := ⟨_, rfl⟩
  obtain ⟨LQ, hLQ⟩ : ∃ L, saysS q = L := ⟨_, rfl⟩
  have hPs := saysS_len p
  have hQs := saysS_len q
  obtain ⟨R, hR⟩ : ∃ R, rowAl keep p q = R := ⟨_, rfl⟩
  rw [hLP, hLQ, hR] at HRA
  rw [hLP] at CP hPs
  rw [hLQ] at CQ hQs
  rw [hR]
  have hLPs : LP.length ≤ 140737488355328 := by omega
  have hLQs : LQ.length ≤ 140737488355328 := by omega
  have CN := fun v w' => nameOf_any p v w'
  clear hLP hLQ hR hl1 hl2 hPs hQs
  go_enter Try.func35, Try.ntmps35
  by_cases hdd : p.d = q.d
  · have df : (!(p.d == q.d)) = false := by simp [hdd]
    by_cases hnn : (p.nm.toList == q.nm.toList) = true
    · have nf : (!(p.nm.toList == q.nm.toList)) = false := by rw [hnn]; rfl
      have HRB : Hid (R = (LP.length == LQ.length && toksAl (keep || defB p) 0 (LP.drop 0) (LQ.drop 0))) := Lib.hid (by rw [HRA.out, hnn, hdd]; simp)
      clear HRA hdd hnn
      go_upto_region 3 with fail
      go_cut [7, 8] (fun t u wx => ∃ a1 c1 a2 c2, t = .slice a1 LP.length c1 ∧ u = .slice a2 LQ.length c2 ∧ TzIn wx a1 LP ∧ TzIn wx a2 LQ ∧ Below W2.heap.size W2 wx)
      case first =>
        go_region_held3 (fun w' => w'.cell? ⟨w.heap.size, 0, none⟩ = some (.bool p.d) ∧ w'.cell? ⟨w.heap.size, 1, none⟩ = some (.string p.nm) ∧ w'.cell? ⟨w.heap.size, 2, none⟩ = some (.slice t1 p.ts.length tc1) ∧ w'.cell? ⟨w.heap.size + 1, 0, none⟩ = some (.bool q.d) ∧ w'.cell? ⟨w.heap.size + 1, 1, none⟩ = some (.string q.nm) ∧ w'.cell? ⟨w.heap.size + 1, 2, none⟩ = some (.slice t2 q.ts.length tc2))
          (first | go_keep | exact (HF.out _ hqW).1 | exact (HF.out _ hpW).1)
          (first
            | (go_at_call 12; ((with_reducible refine (CP _ ?_).mono ?_); (first | exact (HF.out _ hqW).2 | exact below_drewN hb0 1)); rintro e wp ⟨⟨a1, c1, rfl, hp⟩, hbp⟩; have hpW : Below W2.heap.size W2 wp := (by first | exact hqW.trans (hbp.mono hqW.size) | exact (below_drewN (Below.refl W2.heap.size W2) 1).trans hbp))
            | (go_at_call 12; ((with_reducible refine (CQ _ ?_).mono ?_); (first | exact (HF.out _ hpW).2 | exact below_drewN hb0 1)); rintro e wq ⟨⟨a2, c2, rfl, hq⟩, hbq⟩; have hqW : Below W2.heap.size W2 wq := (by first | exact hpW.trans (hbq.mono hpW.size) | exact (below_drewN (Below.refl W2.heap.size W2) 1).trans hbq)))
        all_goals
          go_wp2_with fail
          go_meet
          first
            | exact ⟨a1, c1, a2, c2, rfl, rfl, hp.in.below hbq, hq.in, hqW⟩
            | exact ⟨a1, c1, a2, c2, rfl, rfl, hp.in, hq.in.below hbp, hpW⟩
      case rest =>
        obtain ⟨a1, c1, a2, c2, rfl, rfl, hI1, hI2, hWc⟩ := hcut
        obtain ⟨⟨g0, g1, g2, h0, h1, h2⟩, hB2⟩ := HF.out _ hWc
        have HI1 := Lib.hid hI1
        have HI2 := Lib.hid hI2
        clear hI1 hI2 e0 e1 e2 f0 f1 f2
        by_cases hll : LP.length = LQ.length
        · have lf : ((LP.length : Int) != (LQ.length : Int)) = false := by rw [hll]; simp
          have HRC : Hid (R = toksAl (keep || defB p) 0 (LP.drop 0) (LQ.drop 0)) := Lib.hid (by rw [HRB.out, hll]; simp)
          have HLL := Lib.hid hll
          clear HRB hll
          obtain ⟨sp, hsp⟩ : ∃ sp, (keep || defB p) = sp := ⟨_, rfl⟩
          rw [hsp] at HRC
          have HSP := Lib.hid hsp
          clear hsp
          go_upto_region 6 with fail
          go_cut [9] (fun t wx => t = .bool sp ∧ TzIn wx a1 LP ∧ TzIn wx a2 LQ ∧ Below W2.heap.size W2 wx)
          case first =>
            cases keep with
            | true =>
              obtain rfl : sp = true := by have := HSP.out; simpa using this.symm
              go_wp2_with fail
              go_meet
              exact ⟨rfl, HI1.out, HI2.out, hWc⟩
            | false =>
              have HD : Hid (((nameS p).toList == [100, 101, 102, 105, 110, 101]) = sp) := Lib.hid (by rw [defB_name]; simpa using HSP.out)
              go_wp2_with fail
              refine (CN _ _).mono ?_
              rintro e w3 ⟨rfl, hb3⟩
              have hW3 := hWc.trans (hb3.mono hWc.size)
              cases sp with
              | true =>
                have hd := HD.out
                go_wp2_with fail
                go_meet
                exact ⟨rfl, HI1.out.below hb3, HI2.out.below hb3, hW3⟩
              | false =>
                have hd := HD.out
                go_wp2_with fail
                go_meet
                exact ⟨rfl, HI1.out.below hb3, HI2.out.below hb3, hW3⟩
          case rest =>
            obtain ⟨rfl, hJ1, hJ2, hWd⟩ := hcut
            have HJ1 := Lib.hid hJ1
            have HJ2 := Lib.hid hJ2
            have hBd := (HF.out _ hWd).2
            have hEnd : toksAl (keep || defB p) 0 (LP.drop 0) (LQ.drop 0) = toksAl sp 0 (LP.drop 0) (LQ.drop 0) := by rw [HSP.out]
            clear hJ1 hJ2 hEnd HI1 HI2 hWc hB2 g0 g1 g2 h0 h1 h2 hb0 HF HSP CN CP CQ
            go_wp2
            go_loopw [40] (fun i wx => ∃ j : Nat, j ≤ LP.length ∧ i = .int .i64 j ∧ Hid (R = toksAl sp j (LP.drop j) (LQ.drop j)) ∧ Below wc.heap.size wc wx) (fun i _ => LP.length - (intOf i).toNat)
            case atStart => exact ⟨0, Nat.zero_le _, rfl, HRC, Below.refl _ _⟩
            case round =>
              obtain ⟨j, hj, rfl, HJ0, hbx⟩ := hrel
              by_cases hjl : j < LP.length
              · obtain ⟨t, ht⟩ : ∃ t, LP[j]? = some t := ⟨_, List.getElem?_eq_getElem hjl⟩
                obtain ⟨u, hu⟩ : ∃ t, LQ[j]? = some t := ⟨_, List.getElem?_eq_getElem (by rw [← HLL.out]; exact hjl)⟩
                obtain ⟨gl, ol, rfl, hgl, hrl⟩ := HJ1.out (by omega)
                obtain ⟨gm, om, rfl, hgm, hrm⟩ := HJ2.out (by rw [← HLL.out]; omega)
                have hcells : ∀ W : World, Below wc.heap.size wc W → ((W.cell? ⟨gl, ol + j * 5, none⟩ = some (.int .i64 t.k) ∧ W.cell? ⟨gl, ol + j * 5 + 1, none⟩ = some (.string t.tx) ∧ W.cell? ⟨gl, ol + j * 5 + 2, none⟩ = some (.int .i64 t.a) ∧ W.cell? ⟨gl, ol + j * 5 + 3, none⟩ = some (.int .i64 t.e) ∧ W.cell? ⟨gl, ol + j * 5 + 4, none⟩ = some (.bool t.sp)) ∧
                    W.cell? ⟨gm, om + j * 5, none⟩ = some (.int .i64 u.k) ∧ W.cell? ⟨gm, om + j * 5 + 1, none⟩ = some (.string u.tx) ∧ W.cell? ⟨gm, om + j * 5 + 2, none⟩ = some (.int .i64 u.a) ∧ W.cell? ⟨gm, om + j * 5 + 3, none⟩ = some (.int .i64 u.e) ∧ W.cell? ⟨gm, om + j * 5 + 4, none⟩ = some (.bool u.sp)) := fun W hW => by
                  obtain ⟨x0, x1, x2, x3, x4⟩ := (hrl.below hW hgl) j t ht
                  obtain ⟨y0, y1, y2, y3, y4⟩ := (hrm.below hW hgm) j u hu
                  exact ⟨⟨x0, x1, x2, x3, x4⟩, y0, y1, y2, y3, y4⟩
                obtain ⟨⟨l0, l1, l2, l3, l4⟩, m0, m1, m2, m3, m4⟩ := hcells wr hbx
                have hJ := HJ0.out
                rw [toksAl_step ht hu] at hJ
                have HJ := Lib.hid hJ
                have HCE := Lib.hid hcells
                clear hcells hrl hrm ht hu hJ HJ0
                have i1 : (j : Int) < (LP.length : Int) := by omega
                have i2 : (j : Int) < (LQ.length : Int) := by have := HLL.out; omega
                have i0 : (0 : Int) ≤ (j : Int) := by omega
                cases sp with
                | false =>
                  have CT : ∀ w' : World, Calls Try.prog 45 #[.agg #[.int .i64 t.k, .string t.tx, .int .i64 t.a, .int .i64 t.e, .bool t.sp], .bool false] w' fun e w'' => e = .returned (.agg #[.int .i64 t.k, .string t.tx, .bool false]) ∧ Below w'.heap.size w' w'' := fun w' => saying_any t false w'
                  have CU : ∀ w' : World, Calls Try.prog 45 #[.agg #[.int .i64 u.k, .string u.tx, .int .i64 u.a, .int .i64 u.e, .bool u.sp], .bool false] w' fun e w'' => e = .returned (.agg #[.int .i64 u.k, .string u.tx, .bool false]) ∧ Below w'.heap.size w' w'' := fun w' => saying_any u false w'
                  obtain ⟨N, hN⟩ : ∃ N, (!(t.k == u.k && t.tx.toList == u.tx.toList && (false == false))) = N := ⟨_, rfl⟩
                  have HNT : Hid (tokAl false j t u = !N) := Lib.hid (by rw [← hN]; unfold tokAl; simp)
                  have HNE := Lib.hid hN
                  clear hN l0 l1 l2 l3 l4 m0 m1 m2 m3 m4
                  go_upto_region 10 with fail
                  have hS0 : (fun W : World => (W.cell? ⟨gl, ol + j * 5, none⟩ = some (.int .i64 t.k) ∧ W.cell? ⟨gl, ol + j * 5 + 1, none⟩ = some (.string t.tx) ∧ W.cell? ⟨gl, ol + j * 5 + 2, none⟩ = some (.int .i64 t.a) ∧ W.cell? ⟨gl, ol + j * 5 + 3, none⟩ = some (.int .i64 t.e) ∧ W.cell? ⟨gl, ol + j * 5 + 4, none⟩ = some (.bool t.sp)) ∧ W.cell? ⟨gm, om + j * 5, none⟩ = some (.int .i64 u.k) ∧ W.cell? ⟨gm, om + j * 5 + 1, none⟩ = some (.string u.tx) ∧ W.cell? ⟨gm, om + j * 5 + 2, none⟩ = some (.int .i64 u.a) ∧ W.cell? ⟨gm, om + j * 5 + 3, none⟩ = some (.int .i64 u.e) ∧ W.cell? ⟨gm, om + j * 5 + 4, none⟩ = some (.bool u.sp)) wr.drew := HCE.out _ (below_drewN hbx 1)
                  refine wp_region_held_drew (S := (fun W : World => (W.cell? ⟨gl, ol + j * 5, none⟩ = some (.int .i64 t.k) ∧ W.cell? ⟨gl, ol + j * 5 + 1, none⟩ = some (.string t.tx) ∧ W.cell? ⟨gl, ol + j * 5 + 2, none⟩ = some (.int .i64 t.a) ∧ W.cell? ⟨gl, ol + j * 5 + 3, none⟩ = some (.int .i64 t.e) ∧ W.cell? ⟨gl, ol + j * 5 + 4, none⟩ = some (.bool t.sp)) ∧ W.cell? ⟨gm, om + j * 5, none⟩ = some (.int .i64 u.k) ∧ W.cell? ⟨gm, om + j * 5 + 1, none⟩ = some (.string u.tx) ∧ W.cell? ⟨gm, om + j * 5 + 2, none⟩ = some (.int .i64 u.a) ∧ W.cell? ⟨gm, om + j * 5 + 3, none⟩ = some (.int .i64 u.e) ∧ W.cell? ⟨gm, om + j * 5 + 4, none⟩ = some (.bool u.sp))) (by kernel_rfl) hS0 (fun hS => ?_)
                  clear hS0
                  refine take_at (i := 0) (d := 43) (v := .slice (some ⟨gl, ol, none⟩) LP.length c1) rfl rfl (by kernel_rfl) (by kernel_rfl) (by kernel_rfl) (fun _ _ _ h => h) (Or.inl ⟨by rfl, ?_⟩) hS ?_
                  · rintro W ⟨⟨x0, x1, x2, x3, x4⟩, y0, y1, y2, y3, y4⟩
                    go_simp
                  simp only [List.setIfInBounds_toArray, List.set_cons_zero, List.set_cons_succ]
                  refine take_at (i := 1) (d := 44) (v := .int .i64 j) rfl rfl (by kernel_rfl) (by kernel_rfl) (by kernel_rfl) (fun _ _ _ h => h) (Or.inl ⟨by rfl, ?_⟩) hS ?_
                  · rintro W ⟨⟨x0, x1, x2, x3, x4⟩, y0, y1, y2, y3, y4⟩
                    go_simp
                  simp only [List.setIfInBounds_toArray, List.set_cons_zero, List.set_cons_succ]
                  refine take_at (i := 2) (d := 45) (v := .pointer (some ⟨gl, ol + j * 5, none⟩)) rfl rfl (by kernel_rfl) (by kernel_rfl) (by kernel_rfl) (fun _ _ _ h => h) (Or.inl ⟨by rfl, ?_⟩) hS ?_
                  · rintro W ⟨⟨x0, x1, x2, x3, x4⟩, y0, y1, y2, y3, y4⟩
                    go_simp
                  simp only [List.setIfInBounds_toArray, List.set_cons_zero, List.set_cons_succ]
                  refine take_at (i := 3) (d := 46) (v := .agg #[.int .i64 t.k, .string t.tx, .int .i64 t.a, .int .i64 t.e, .bool t.sp]) rfl rfl (by kernel_rfl) (by kernel_rfl) (by kernel_rfl) (fun _ _ _ h => h) (Or.inl ⟨by rfl, ?_⟩) hS ?_
                  · rintro W ⟨⟨x0, x1, x2, x3, x4⟩, y0, y1, y2, y3, y4⟩
                    go_simp
                  simp only [List.setIfInBounds_toArray, List.set_cons_zero, List.set_cons_succ]
                  refine take_at (i := 4) (d := 47) (v := .bool false) rfl rfl (by kernel_rfl) (by kernel_rfl) (by kernel_rfl) (fun _ _ _ h => h) (Or.inl ⟨by rfl, ?_⟩) hS ?_
                  · rintro W ⟨⟨x0, x1, x2, x3, x4⟩, y0, y1, y2, y3, y4⟩
                    go_simp
                  simp only [List.setIfInBounds_toArray, List.set_cons_zero, List.set_cons_succ]
                  refine take_at (i := 5) (d := 48) (v := .bool false) rfl rfl (by kernel_rfl) (by kernel_rfl) (by kernel_rfl) (fun _ _ _ h => h) (Or.inl ⟨by rfl, ?_⟩) hS ?_
                  · rintro W ⟨⟨x0, x1, x2, x3, x4⟩, y0, y1, y2, y3, y4⟩
                    go_simp
                  simp only [List.setIfInBounds_toArray, List.set_cons_zero, List.set_cons_succ]
                  refine take_at (i := 6) (d := 49) (v := undef) rfl rfl (by kernel_rfl) (by kernel_rfl) (by kernel_rfl) (fun _ _ _ h => h) (Or.inr ⟨by rfl, rfl⟩) hS ?_
                  simp only [List.setIfInBounds_toArray, List.set_cons_zero, List.set_cons_succ]
                  refine take_at (i := 7) (d := 50) (v := undef) rfl rfl (by kernel_rfl) (by kernel_rfl) (by kernel_rfl) (fun _ _ _ h => h) (Or.inr ⟨by rfl, rfl⟩) hS ?_
                  simp only [List.setIfInBounds_toArray, List.set_cons_zero, List.set_cons_succ]
                  refine take_at (i := 8) (d := 51) (v := .bool false) rfl rfl (by kernel_rfl) (by kernel_rfl) (by kernel_rfl) (fun _ _ _ h => h) (Or.inl ⟨by rfl, ?_⟩) hS ?_
                  · rintro W ⟨⟨x0, x1, x2, x3, x4⟩, y0, y1, y2, y3, y4⟩
                    go_simp
                  simp only [List.setIfInBounds_toArray, List.set_cons_zero, List.set_cons_succ]
                  refine take_at (i := 10) (d := 53) (v := .slice (some ⟨gm, om, none⟩) LQ.length c2) rfl rfl (by kernel_rfl) (by kernel_rfl) (by kernel_rfl) (fun _ _ _ h => h) (Or.inl ⟨by rfl, ?_⟩) hS ?_
                  · rintro W ⟨⟨x0, x1, x2, x3, x4⟩, y0, y1, y2, y3, y4⟩
                    go_simp
                  simp only [List.setIfInBounds_toArray, List.set_cons_zero, List.set_cons_succ]
                  refine take_at (i := 11) (d := 54) (v := .int .i64 j) rfl rfl (by kernel_rfl) (by kernel_rfl) (by kernel_rfl) (fun _ _ _ h => h) (Or.inl ⟨by rfl, ?_⟩) hS ?_
                  · rintro W ⟨⟨x0, x1, x2, x3, x4⟩, y0, y1, y2, y3, y4⟩
                    go_simp
                  simp only [List.setIfInBounds_toArray, List.set_cons_zero, List.set_cons_succ]
                  refine take_at (i := 12) (d := 55) (v := .pointer (some ⟨gm, om + j * 5, none⟩)) rfl rfl (by kernel_rfl) (by kernel_rfl) (by kernel_rfl) (fun _ _ _ h => h) (Or.inl ⟨by rfl, ?_⟩) hS ?_
                  · rintro W ⟨⟨x0, x1, x2, x3, x4⟩, y0, y1, y2, y3, y4⟩
                    go_simp
                  simp only [List.setIfInBounds_toArray, List.set_cons_zero, List.set_cons_succ]
                  refine take_at (i := 13) (d := 56) (v := .agg #[.int .i64 u.k, .string u.tx, .int .i64 u.a, .int .i64 u.e, .bool u.sp]) rfl rfl (by kernel_rfl) (by kernel_rfl) (by kernel_rfl) (fun _ _ _ h => h) (Or.inl ⟨by rfl, ?_⟩) hS ?_
                  · rintro W ⟨⟨x0, x1, x2, x3, x4⟩, y0, y1, y2, y3, y4⟩
                    go_simp
                  simp only [List.setIfInBounds_toArray, List.set_cons_zero, List.set_cons_succ]
                  refine take_at (i := 14) (d := 57) (v := .bool false) rfl rfl (by kernel_rfl) (by kernel_rfl) (by kernel_rfl) (fun _ _ _ h => h) (Or.inl ⟨by rfl, ?_⟩) hS ?_
                  · rintro W ⟨⟨x0, x1, x2, x3, x4⟩, y0, y1, y2, y3, y4⟩
                    go_simp
                  simp only [List.setIfInBounds_toArray, List.set_cons_zero, List.set_cons_succ]
                  refine wpAnyH_ready (rs := [9]) (by kernel_rfl) (by simp) ?_
                  refine AllReadyH.cons rfl (fun K hK => ?_) AllReadyH.nil
                  go_simp
                  refine (CT _).mono ?_
                  rintro e wt ⟨rfl, hnt⟩
                  have hbt : Below wc.heap.size wc wt := (below_drewN hbx 1).trans (hnt.mono (below_drewN hbx 1).size)
                  go_wp2_with fail
                  refine hK.out _ _ (HCE.out _ hbt) (fun hS => ?_)
                  clear hK K
                  refine take_at (i := 15) (d := 58) (v := .bool false) rfl rfl (by kernel_rfl) (by kernel_rfl) (by kernel_rfl) (fun _ _ _ h => h) (Or.inl ⟨by rfl, ?_⟩) hS ?_
                  · rintro W ⟨⟨x0, x1, x2, x3, x4⟩, y0, y1, y2, y3, y4⟩
                    go_simp
                  simp only [List.setIfInBounds_toArray, List.set_cons_zero, List.set_cons_succ]
                  refine take_at (i := 16) (d := 59) (v := undef) rfl rfl (by kernel_rfl) (by kernel_rfl) (by kernel_rfl) (fun _ _ _ h => h) (Or.inr ⟨by rfl, rfl⟩) hS ?_
                  simp only [List.setIfInBounds_toArray, List.set_cons_zero, List.set_cons_succ]
                  refine take_at (i := 17) (d := 60) (v := undef) rfl rfl (by kernel_rfl) (by kernel_rfl) (by kernel_rfl) (fun _ _ _ h => h) (Or.inr ⟨by rfl, rfl⟩) hS ?_
                  simp only [List.setIfInBounds_toArray, List.set_cons_zero, List.set_cons_succ]
                  refine take_at (i := 18) (d := 61) (v := .bool false) rfl rfl (by kernel_rfl) (by kernel_rfl) (by kernel_rfl) (fun _ _ _ h => h) (Or.inl ⟨by rfl, ?_⟩) hS ?_
                  · rintro W ⟨⟨x0, x1, x2, x3, x4⟩, y0, y1, y2, y3, y4⟩
                    go_simp
                  simp only [List.setIfInBounds_toArray, List.set_cons_zero, List.set_cons_succ]
                  refine wpAnyH_ready (rs := [19]) (by kernel_rfl) (by simp) ?_
                  refine AllReadyH.cons rfl (fun K hK => ?_) AllReadyH.nil
                  go_simp
                  refine (CU _).mono ?_
                  rintro e wu ⟨rfl, hnu⟩
                  have hbu : Below wc.heap.size wc wu := hbt.trans (hnu.mono hbt.size)
                  go_wp2_with fail
                  refine hK.out _ _ (HCE.out _ hbu) (fun hS => ?_)
                  clear hK K
                  refine take_at (i := 20) (d := 63) (v := .bool N) rfl rfl (by kernel_rfl) (by kernel_rfl) (by kernel_rfl) (fun _ _ _ h => h) (Or.inl ⟨by rfl, ?_⟩) hS ?_
                  · rintro W ⟨⟨x0, x1, x2, x3, x4⟩, y0, y1, y2, y3, y4⟩
                    (go_simp; rw [← HNE.out]; first | exact said2 | exact said3)
                  simp only [List.setIfInBounds_toArray, List.set_cons_zero, List.set_cons_succ]
                  refine wpAnyH_done (by kernel_rfl) ?_ _
                  have hBu : Below w.heap.size w wu := hBd.trans (hbu.mono hBd.size)
                  clear hnt hnu CT CU hS HCE HNE
                  cases N with
                  | true =>
                    have HF : Hid (R = false) := Lib.hid (by rw [HJ.out, HNT.out]; rfl)
                    clear HJ HNT
                    go_wp2
                    go_ret
                    exact ⟨rb (by rw [HF.out]), hBu⟩
                  | false =>
                    have HN : Hid (R = toksAl false (j + 1) (LP.drop (j + 1)) (LQ.drop (j + 1))) := Lib.hid (by rw [HJ.out, HNT.out]; rfl)
                    clear HJ HNT
                    go_wp2
                    refine ⟨⟨j + 1, by omega, by go_num, HN, hbu⟩, ?_⟩
                    simp [intOf]; omega
                | true =>
                  by_cases hj0 : 0 < j
                  · have jf : (0 : Int) < (j : Int) := by omega
                    have CT : ∀ w' : World, Calls Try.prog 45 #[.agg #[.int .i64 t.k, .string t.tx, .int .i64 t.a, .int .i64 t.e, .bool t.sp], .bool true] w' fun e w'' => e = .returned (.agg #[.int .i64 t.k, .string t.tx, .bool t.sp]) ∧ Below w'.heap.size w' w'' := fun w' => saying_any t true w'
                    have CU : ∀ w' : World, Calls Try.prog 45 #[.agg #[.int .i64 u.k, .string u.tx, .int .i64 u.a, .int .i64 u.e, .bool u.sp], .bool true] w' fun e w'' => e = .returned (.agg #[.int .i64 u.k, .string u.tx, .bool u.sp]) ∧ Below w'.heap.size w' w'' := fun w' => saying_any u true w'
                    obtain ⟨N, hN⟩ : ∃ N, (!(t.k == u.k && t.tx.toList == u.tx.toList && (t.sp == u.sp))) = N := ⟨_, rfl⟩
                    have HNT : Hid (tokAl true j t u = !N) := Lib.hid (by rw [← hN]; unfold tokAl; simp [hj0])
                    have HNE := Lib.hid hN
                    clear hN l0 l1 l2 l3 l4 m0 m1 m2 m3 m4
                    go_upto_region 10 with fail
                    have hS0 : (fun W : World => (W.cell? ⟨gl, ol + j * 5, none⟩ = some (.int .i64 t.k) ∧ W.cell? ⟨gl, ol + j * 5 + 1, none⟩ = some (.string t.tx) ∧ W.cell? ⟨gl, ol + j * 5 + 2, none⟩ = some (.int .i64 t.a) ∧ W.cell? ⟨gl, ol + j * 5 + 3, none⟩ = some (.int .i64 t.e) ∧ W.cell? ⟨gl, ol + j * 5 + 4, none⟩ = some (.bool t.sp)) ∧ W.cell? ⟨gm, om + j * 5, none⟩ = some (.int .i64 u.k) ∧ W.cell? ⟨gm, om + j * 5 + 1, none⟩ = some (.string u.tx) ∧ W.cell? ⟨gm, om + j * 5 + 2, none⟩ = some (.int .i64 u.a) ∧ W.cell? ⟨gm, om + j * 5 + 3, none⟩ = some (.int .i64 u.e) ∧ W.cell? ⟨gm, om + j * 5 + 4, none⟩ = some (.bool u.sp)) wr.drew := HCE.out _ (below_drewN hbx 1)
                    refine wp_region_held_drew (S := (fun W : World => (W.cell? ⟨gl, ol + j * 5, none⟩ = some (.int .i64 t.k) ∧ W.cell? ⟨gl, ol + j * 5 + 1, none⟩ = some (.string t.tx) ∧ W.cell? ⟨gl, ol + j * 5 + 2, none⟩ = some (.int .i64 t.a) ∧ W.cell? ⟨gl, ol + j * 5 + 3, none⟩ = some (.int .i64 t.e) ∧ W.cell? ⟨gl, ol + j * 5 + 4, none⟩ = some (.bool t.sp)) ∧ W.cell? ⟨gm, om + j * 5, none⟩ = some (.int .i64 u.k) ∧ W.cell? ⟨gm, om + j * 5 + 1, none⟩ = some (.string u.tx) ∧ W.cell? ⟨gm, om + j * 5 + 2, none⟩ = some (.int .i64 u.a) ∧ W.cell? ⟨gm, om + j * 5 + 3, none⟩ = some (.int .i64 u.e) ∧ W.cell? ⟨gm, om + j * 5 + 4, none⟩ = some (.bool u.sp))) (by kernel_rfl) hS0 (fun hS => ?_)
                    clear hS0
                    refine take_at (i := 0) (d := 43) (v := .slice (some ⟨gl, ol, none⟩) LP.length c1) rfl rfl (by kernel_rfl) (by kernel_rfl) (by kernel_rfl) (fun _ _ _ h => h) (Or.inl ⟨by rfl, ?_⟩) hS ?_
                    · rintro W ⟨⟨x0, x1, x2, x3, x4⟩, y0, y1, y2, y3, y4⟩
                      go_simp
                    simp only [List.setIfInBounds_toArray, List.set_cons_zero, List.set_cons_succ]
                    refine take_at (i := 1) (d := 44) (v := .int .i64 j) rfl rfl (by kernel_rfl) (by kernel_rfl) (by kernel_rfl) (fun _ _ _ h => h) (Or.inl ⟨by rfl, ?_⟩) hS ?_
                    · rintro W ⟨⟨x0, x1, x2, x3, x4⟩, y0, y1, y2, y3, y4⟩
                      go_simp
                    simp only [List.setIfInBounds_toArray, List.set_cons_zero, List.set_cons_succ]
                    refine take_at (i := 2) (d := 45) (v := .pointer (some ⟨gl, ol + j * 5, none⟩)) rfl rfl (by kernel_rfl) (by kernel_rfl) (by kernel_rfl) (fun _ _ _ h => h) (Or.inl ⟨by rfl, ?_⟩) hS ?_
                    · rintro W ⟨⟨x0, x1, x2, x3, x4⟩, y0, y1, y2, y3, y4⟩
                      go_simp
                    simp only [List.setIfInBounds_toArray, List.set_cons_zero, List.set_cons_succ]
                    refine take_at (i := 3) (d := 46) (v := .agg #[.int .i64 t.k, .string t.tx, .int .i64 t.a, .int .i64 t.e, .bool t.sp]) rfl rfl (by kernel_rfl) (by kernel_rfl) (by kernel_rfl) (fun _ _ _ h => h) (Or.inl ⟨by rfl, ?_⟩) hS ?_
                    · rintro W ⟨⟨x0, x1, x2, x3, x4⟩, y0, y1, y2, y3, y4⟩
                      go_simp
                    simp only [List.setIfInBounds_toArray, List.set_cons_zero, List.set_cons_succ]
                    refine take_at (i := 4) (d := 47) (v := .bool true) rfl rfl (by kernel_rfl) (by kernel_rfl) (by kernel_rfl) (fun _ _ _ h => h) (Or.inl ⟨by rfl, ?_⟩) hS ?_
                    · rintro W ⟨⟨x0, x1, x2, x3, x4⟩, y0, y1, y2, y3, y4⟩
                      go_simp
                    simp only [List.setIfInBounds_toArray, List.set_cons_zero, List.set_cons_succ]
                    refine take_at (i := 5) (d := 48) (v := .bool true) rfl rfl (by kernel_rfl) (by kernel_rfl) (by kernel_rfl) (fun _ _ _ h => h) (Or.inl ⟨by rfl, ?_⟩) hS ?_
                    · rintro W ⟨⟨x0, x1, x2, x3, x4⟩, y0, y1, y2, y3, y4⟩
                      go_simp
                    simp only [List.setIfInBounds_toArray, List.set_cons_zero, List.set_cons_succ]
                    refine take_at (i := 6) (d := 49) (v := .int .i64 j) rfl rfl (by kernel_rfl) (by kernel_rfl) (by kernel_rfl) (fun _ _ _ h => h) (Or.inl ⟨by rfl, ?_⟩) hS ?_
                    · rintro W ⟨⟨x0, x1, x2, x3, x4⟩, y0, y1, y2, y3, y4⟩
                      go_simp
                    simp only [List.setIfInBounds_toArray, List.set_cons_zero, List.set_cons_succ]
                    refine take_at (i := 7) (d := 50) (v := .bool true) rfl rfl (by kernel_rfl) (by kernel_rfl) (by kernel_rfl) (fun _ _ _ h => h) (Or.inl ⟨by rfl, ?_⟩) hS ?_
                    · rintro W ⟨⟨x0, x1, x2, x3, x4⟩, y0, y1, y2, y3, y4⟩
                      go_simp
                    simp only [List.setIfInBounds_toArray, List.set_cons_zero, List.set_cons_succ]
                    refine take_at (i := 8) (d := 51) (v := .bool true) rfl rfl (by kernel_rfl) (by kernel_rfl) (by kernel_rfl) (fun _ _ _ h => h) (Or.inl ⟨by rfl, ?_⟩) hS ?_
                    · rintro W ⟨⟨x0, x1, x2, x3, x4⟩, y0, y1, y2, y3, y4⟩
                      go_simp
                    simp only [List.setIfInBounds_toArray, List.set_cons_zero, List.set_cons_succ]
                    refine take_at (i := 10) (d := 53) (v := .slice (some ⟨gm, om, none⟩) LQ.length c2) rfl rfl (by kernel_rfl) (by kernel_rfl) (by kernel_rfl) (fun _ _ _ h => h) (Or.inl ⟨by rfl, ?_⟩) hS ?_
                    · rintro W ⟨⟨x0, x1, x2, x3, x4⟩, y0, y1, y2, y3, y4⟩
                      go_simp
                    simp only [List.setIfInBounds_toArray, List.set_cons_zero, List.set_cons_succ]
                    refine take_at (i := 11) (d := 54) (v := .int .i64 j) rfl rfl (by kernel_rfl) (by kernel_rfl) (by kernel_rfl) (fun _ _ _ h => h) (Or.inl ⟨by rfl, ?_⟩) hS ?_
                    · rintro W ⟨⟨x0, x1, x2, x3, x4⟩, y0, y1, y2, y3, y4⟩
                      go_simp
                    simp only [List.setIfInBounds_toArray, List.set_cons_zero, List.set_cons_succ]
                    refine take_at (i := 12) (d := 55) (v := .pointer (some ⟨gm, om + j * 5, none⟩)) rfl rfl (by kernel_rfl) (by kernel_rfl) (by kernel_rfl) (fun _ _ _ h => h) (Or.inl ⟨by rfl, ?_⟩) hS ?_
                    · rintro W ⟨⟨x0, x1, x2, x3, x4⟩, y0, y1, y2, y3, y4⟩
                      go_simp
                    simp only [List.setIfInBounds_toArray, List.set_cons_zero, List.set_cons_succ]
                    refine take_at (i := 13) (d := 56) (v := .agg #[.int .i64 u.k, .string u.tx, .int .i64 u.a, .int .i64 u.e, .bool u.sp]) rfl rfl (by kernel_rfl) (by kernel_rfl) (by kernel_rfl) (fun _ _ _ h => h) (Or.inl ⟨by rfl, ?_⟩) hS ?_
                    · rintro W ⟨⟨x0, x1, x2, x3, x4⟩, y0, y1, y2, y3, y4⟩
                      go_simp
                    simp only [List.setIfInBounds_toArray, List.set_cons_zero, List.set_cons_succ]
                    refine take_at (i := 14) (d := 57) (v := .bool true) rfl rfl (by kernel_rfl) (by kernel_rfl) (by kernel_rfl) (fun _ _ _ h => h) (Or.inl ⟨by rfl, ?_⟩) hS ?_
                    · rintro W ⟨⟨x0, x1, x2, x3, x4⟩, y0, y1, y2, y3, y4⟩
                      go_simp
                    simp only [List.setIfInBounds_toArray, List.set_cons_zero, List.set_cons_succ]
                    refine wpAnyH_ready (rs := [9]) (by kernel_rfl) (by simp) ?_
                    refine AllReadyH.cons rfl (fun K hK => ?_) AllReadyH.nil
                    go_simp
                    refine (CT _).mono ?_
                    rintro e wt ⟨rfl, hnt⟩
                    have hbt : Below wc.heap.size wc wt := (below_drewN hbx 1).trans (hnt.mono (below_drewN hbx 1).size)
                    go_wp2_with fail
                    refine hK.out _ _ (HCE.out _ hbt) (fun hS => ?_)
                    clear hK K
                    refine take_at (i := 15) (d := 58) (v := .bool true) rfl rfl (by kernel_rfl) (by kernel_rfl) (by kernel_rfl) (fun _ _ _ h => h) (Or.inl ⟨by rfl, ?_⟩) hS ?_
                    · rintro W ⟨⟨x0, x1, x2, x3, x4⟩, y0, y1, y2, y3, y4⟩
                      go_simp
                    simp only [List.setIfInBounds_toArray, List.set_cons_zero, List.set_cons_succ]
                    refine take_at (i := 16) (d := 59) (v := .int .i64 j) rfl rfl (by kernel_rfl) (by kernel_rfl) (by kernel_rfl) (fun _ _ _ h => h) (Or.inl ⟨by rfl, ?_⟩) hS ?_
                    · rintro W ⟨⟨x0, x1, x2, x3, x4⟩, y0, y1, y2, y3, y4⟩
                      go_simp
                    simp only [List.setIfInBounds_toArray, List.set_cons_zero, List.set_cons_succ]
                    refine take_at (i := 17) (d := 60) (v := .bool true) rfl rfl (by kernel_rfl) (by kernel_rfl) (by kernel_rfl) (fun _ _ _ h => h) (Or.inl ⟨by rfl, ?_⟩) hS ?_
                    · rintro W ⟨⟨x0, x1, x2, x3, x4⟩, y0, y1, y2, y3, y4⟩
                      go_simp
                    simp only [List.setIfInBounds_toArray, List.set_cons_zero, List.set_cons_succ]
                    refine take_at (i := 18) (d := 61) (v := .bool true) rfl rfl (by kernel_rfl) (by kernel_rfl) (by kernel_rfl) (fun _ _ _ h => h) (Or.inl ⟨by rfl, ?_⟩) hS ?_
                    · rintro W ⟨⟨x0, x1, x2, x3, x4⟩, y0, y1, y2, y3, y4⟩
                      go_simp
                    simp only [List.setIfInBounds_toArray, List.set_cons_zero, List.set_cons_succ]
                    refine wpAnyH_ready (rs := [19]) (by kernel_rfl) (by simp) ?_
                    refine AllReadyH.cons rfl (fun K hK => ?_) AllReadyH.nil
                    go_simp
                    refine (CU _).mono ?_
                    rintro e wu ⟨rfl, hnu⟩
                    have hbu : Below wc.heap.size wc wu := hbt.trans (hnu.mono hbt.size)
                    go_wp2_with fail
                    refine hK.out _ _ (HCE.out _ hbu) (fun hS => ?_)
                    clear hK K
                    refine take_at (i := 20) (d := 63) (v := .bool N) rfl rfl (by kernel_rfl) (by kernel_rfl) (by kernel_rfl) (fun _ _ _ h => h) (Or.inl ⟨by rfl, ?_⟩) hS ?_
                    · rintro W ⟨⟨x0, x1, x2, x3, x4⟩, y0, y1, y2, y3, y4⟩
                      (go_simp; rw [← HNE.out]; first | exact said2 | exact said3)
                    simp only [List.setIfInBounds_toArray, List.set_cons_zero, List.set_cons_succ]
                    refine wpAnyH_done (by kernel_rfl) ?_ _
                    have hBu : Below w.heap.size w wu := hBd.trans (hbu.mono hBd.size)
                    clear hnt hnu CT CU hS HCE HNE
                    cases N with
                    | true =>
                      have HF : Hid (R = false) := Lib.hid (by rw [HJ.out, HNT.out]; rfl)
                      clear HJ HNT
                      go_wp2
                      go_ret
                      exact ⟨rb (by rw [HF.out]), hBu⟩
                    | false =>
                      have HN : Hid (R = toksAl true (j + 1) (LP.drop (j + 1)) (LQ.drop (j + 1))) := Lib.hid (by rw [HJ.out, HNT.out]; rfl)
                      clear HJ HNT
                      go_wp2
                      refine ⟨⟨j + 1, by omega, by go_num, HN, hbu⟩, ?_⟩
                      simp [intOf]; omega
                  · have jf : ¬ (0 : Int) < (j : Int) := by omega
                    have jg : decide ((0 : Int) < (j : Int)) = false := decide_eq_false jf
                    have CT : ∀ w' : World, Calls Try.prog 45 #[.agg #[.int .i64 t.k, .string t.tx, .int .i64 t.a, .int .i64 t.e, .bool t.sp], .bool false] w' fun e w'' => e = .returned (.agg #[.int .i64 t.k, .string t.tx, .bool false]) ∧ Below w'.heap.size w' w'' := fun w' => saying_any t false w'
                    have CU : ∀ w' : World, Calls Try.prog 45 #[.agg #[.int .i64 u.k, .string u.tx, .int .i64 u.a, .int .i64 u.e, .bool u.sp], .bool false] w' fun e w'' => e = .returned (.agg #[.int .i64 u.k, .string u.tx, .bool false]) ∧ Below w'.heap.size w' w'' := fun w' => saying_any u false w'
                    obtain ⟨N, hN⟩ : ∃ N, (!(t.k == u.k && t.tx.toList == u.tx.toList && (false == false))) = N := ⟨_, rfl⟩
                    have HNT : Hid (tokAl true j t u = !N) := Lib.hid (by rw [← hN]; unfold tokAl; simp [hj0])
                    have HNE := Lib.hid hN
                    clear hN l0 l1 l2 l3 l4 m0 m1 m2 m3 m4
                    go_upto_region 10 with fail
                    have hS0 : (fun W : World => (W.cell? ⟨gl, ol + j * 5, none⟩ = some (.int .i64 t.k) ∧ W.cell? ⟨gl, ol + j * 5 + 1, none⟩ = some (.string t.tx) ∧ W.cell? ⟨gl, ol + j * 5 + 2, none⟩ = some (.int .i64 t.a) ∧ W.cell? ⟨gl, ol + j * 5 + 3, none⟩ = some (.int .i64 t.e) ∧ W.cell? ⟨gl, ol + j * 5 + 4, none⟩ = some (.bool t.sp)) ∧ W.cell? ⟨gm, om + j * 5, none⟩ = some (.int .i64 u.k) ∧ W.cell? ⟨gm, om + j * 5 + 1, none⟩ = some (.string u.tx) ∧ W.cell? ⟨gm, om + j * 5 + 2, none⟩ = some (.int .i64 u.a) ∧ W.cell? ⟨gm, om + j * 5 + 3, none⟩ = some (.int .i64 u.e) ∧ W.cell? ⟨gm, om + j * 5 + 4, none⟩ = some (.bool u.sp)) wr.drew := HCE.out _ (below_drewN hbx 1)
                    refine wp_region_held_drew (S := (fun W : World => (W.cell? ⟨gl, ol + j * 5, none⟩ = some (.int .i64 t.k) ∧ W.cell? ⟨gl, ol + j * 5 + 1, none⟩ = some (.string t.tx) ∧ W.cell? ⟨gl, ol + j * 5 + 2, none⟩ = some (.int .i64 t.a) ∧ W.cell? ⟨gl, ol + j * 5 + 3, none⟩ = some (.int .i64 t.e) ∧ W.cell? ⟨gl, ol + j * 5 + 4, none⟩ = some (.bool t.sp)) ∧ W.cell? ⟨gm, om + j * 5, none⟩ = some (.int .i64 u.k) ∧ W.cell? ⟨gm, om + j * 5 + 1, none⟩ = some (.string u.tx) ∧ W.cell? ⟨gm, om + j * 5 + 2, none⟩ = some (.int .i64 u.a) ∧ W.cell? ⟨gm, om + j * 5 + 3, none⟩ = some (.int .i64 u.e) ∧ W.cell? ⟨gm, om + j * 5 + 4, none⟩ = some (.bool u.sp))) (by kernel_rfl) hS0 (fun hS => ?_)
                    clear hS0
                    refine take_at (i := 0) (d := 43) (v := .slice (some ⟨gl, ol, none⟩) LP.length c1) rfl rfl (by kernel_rfl) (by kernel_rfl) (by kernel_rfl) (fun _ _ _ h => h) (Or.inl ⟨by rfl, ?_⟩) hS ?_
                    · rintro W ⟨⟨x0, x1, x2, x3, x4⟩, y0, y1, y2, y3, y4⟩
                      go_simp
                    simp only [List.setIfInBounds_toArray, List.set_cons_zero, List.set_cons_succ]
                    refine take_at (i := 1) (d := 44) (v := .int .i64 j) rfl rfl (by kernel_rfl) (by kernel_rfl) (by kernel_rfl) (fun _ _ _ h => h) (Or.inl ⟨by rfl, ?_⟩) hS ?_
                    · rintro W ⟨⟨x0, x1, x2, x3, x4⟩, y0, y1, y2, y3, y4⟩
                      go_simp
                    simp only [List.setIfInBounds_toArray, List.set_cons_zero, List.set_cons_succ]
                    refine take_at (i := 2) (d := 45) (v := .pointer (some ⟨gl, ol + j * 5, none⟩)) rfl rfl (by kernel_rfl) (by kernel_rfl) (by kernel_rfl) (fun _ _ _ h => h) (Or.inl ⟨by rfl, ?_⟩) hS ?_
                    · rintro W ⟨⟨x0, x1, x2, x3, x4⟩, y0, y1, y2, y3, y4⟩
                      go_simp
                    simp only [List.setIfInBounds_toArray, List.set_cons_zero, List.set_cons_succ]
                    refine take_at (i := 3) (d := 46) (v := .agg #[.int .i64 t.k, .string t.tx, .int .i64 t.a, .int .i64 t.e, .bool t.sp]) rfl rfl (by kernel_rfl) (by kernel_rfl) (by kernel_rfl) (fun _ _ _ h => h) (Or.inl ⟨by rfl, ?_⟩) hS ?_
                    · rintro W ⟨⟨x0, x1, x2, x3, x4⟩, y0, y1, y2, y3, y4⟩
                      go_simp
                    simp only [List.setIfInBounds_toArray, List.set_cons_zero, List.set_cons_succ]
                    refine take_at (i := 4) (d := 47) (v := .bool true) rfl rfl (by kernel_rfl) (by kernel_rfl) (by kernel_rfl) (fun _ _ _ h => h) (Or.inl ⟨by rfl, ?_⟩) hS ?_
                    · rintro W ⟨⟨x0, x1, x2, x3, x4⟩, y0, y1, y2, y3, y4⟩
                      go_simp
                    simp only [List.setIfInBounds_toArray, List.set_cons_zero, List.set_cons_succ]
                    refine take_at (i := 5) (d := 48) (v := .bool true) rfl rfl (by kernel_rfl) (by kernel_rfl) (by kernel_rfl) (fun _ _ _ h => h) (Or.inl ⟨by rfl, ?_⟩) hS ?_
                    · rintro W ⟨⟨x0, x1, x2, x3, x4⟩, y0, y1, y2, y3, y4⟩
                      go_simp
                    simp only [List.setIfInBounds_toArray, List.set_cons_zero, List.set_cons_succ]
                    refine take_at (i := 6) (d := 49) (v := .int .i64 j) rfl rfl (by kernel_rfl) (by kernel_rfl) (by kernel_rfl) (fun _ _ _ h => h) (Or.inl ⟨by rfl, ?_⟩) hS ?_
                    · rintro W ⟨⟨x0, x1, x2, x3, x4⟩, y0, y1, y2, y3, y4⟩
                      go_simp
                    simp only [List.setIfInBounds_toArray, List.set_cons_zero, List.set_cons_succ]
                    refine take_at (i := 7) (d := 50) (v := .bool false) rfl rfl (by kernel_rfl) (by kernel_rfl) (by kernel_rfl) (fun _ _ _ h => h) (Or.inl ⟨by rfl, ?_⟩) hS ?_
                    · rintro W ⟨⟨x0, x1, x2, x3, x4⟩, y0, y1, y2, y3, y4⟩
                      go_simp
                    simp only [List.setIfInBounds_toArray, List.set_cons_zero, List.set_cons_succ]
                    refine take_at (i := 8) (d := 51) (v := .bool false) rfl rfl (by kernel_rfl) (by kernel_rfl) (by kernel_rfl) (fun _ _ _ h => h) (Or.inl ⟨by rfl, ?_⟩) hS ?_
                    · rintro W ⟨⟨x0, x1, x2, x3, x4⟩, y0, y1, y2, y3, y4⟩
                      go_simp
                    simp only [List.setIfInBounds_toArray, List.set_cons_zero, List.set_cons_succ]
                    refine take_at (i := 10) (d := 53) (v := .slice (some ⟨gm, om, none⟩) LQ.length c2) rfl rfl (by kernel_rfl) (by kernel_rfl) (by kernel_rfl) (fun _ _ _ h => h) (Or.inl ⟨by rfl, ?_⟩) hS ?_
                    · rintro W ⟨⟨x0, x1, x2, x3, x4⟩, y0, y1, y2, y3, y4⟩
                      go_simp
                    simp only [List.setIfInBounds_toArray, List.set_cons_zero, List.set_cons_succ]
                    refine take_at (i := 11) (d := 54) (v := .int .i64 j) rfl rfl (by kernel_rfl) (by kernel_rfl) (by kernel_rfl) (fun _ _ _ h => h) (Or.inl ⟨by rfl, ?_⟩) hS ?_
                    · rintro W ⟨⟨x0, x1, x2, x3, x4⟩, y0, y1, y2, y3, y4⟩
                      go_simp
                    simp only [List.setIfInBounds_toArray, List.set_cons_zero, List.set_cons_succ]
                    refine take_at (i := 12) (d := 55) (v := .pointer (some ⟨gm, om + j * 5, none⟩)) rfl rfl (by kernel_rfl) (by kernel_rfl) (by kernel_rfl) (fun _ _ _ h => h) (Or.inl ⟨by rfl, ?_⟩) hS ?_
                    · rintro W ⟨⟨x0, x1, x2, x3, x4⟩, y0, y1, y2, y3, y4⟩
                      go_simp
                    simp only [List.setIfInBounds_toArray, List.set_cons_zero, List.set_cons_succ]
                    refine take_at (i := 13) (d := 56) (v := .agg #[.int .i64 u.k, .string u.tx, .int .i64 u.a, .int .i64 u.e, .bool u.sp]) rfl rfl (by kernel_rfl) (by kernel_rfl) (by kernel_rfl) (fun _ _ _ h => h) (Or.inl ⟨by rfl, ?_⟩) hS ?_
                    · rintro W ⟨⟨x0, x1, x2, x3, x4⟩, y0, y1, y2, y3, y4⟩
                      go_simp
                    simp only [List.setIfInBounds_toArray, List.set_cons_zero, List.set_cons_succ]
                    refine take_at (i := 14) (d := 57) (v := .bool true) rfl rfl (by kernel_rfl) (by kernel_rfl) (by kernel_rfl) (fun _ _ _ h => h) (Or.inl ⟨by rfl, ?_⟩) hS ?_
                    · rintro W ⟨⟨x0, x1, x2, x3, x4⟩, y0, y1, y2, y3, y4⟩
                      go_simp
                    simp only [List.setIfInBounds_toArray, List.set_cons_zero, List.set_cons_succ]
                    refine wpAnyH_ready (rs := [9]) (by kernel_rfl) (by simp) ?_
                    refine AllReadyH.cons rfl (fun K hK => ?_) AllReadyH.nil
                    go_simp
                    refine (CT _).mono ?_
                    rintro e wt ⟨rfl, hnt⟩
                    have hbt : Below wc.heap.size wc wt := (below_drewN hbx 1).trans (hnt.mono (below_drewN hbx 1).size)
                    go_wp2_with fail
                    refine hK.out _ _ (HCE.out _ hbt) (fun hS => ?_)
                    clear hK K
                    refine take_at (i := 15) (d := 58) (v := .bool true) rfl rfl (by kernel_rfl) (by kernel_rfl) (by kernel_rfl) (fun _ _ _ h => h) (Or.inl ⟨by rfl, ?_⟩) hS ?_
                    · rintro W ⟨⟨x0, x1, x2, x3, x4⟩, y0, y1, y2, y3, y4⟩
                      go_simp
                    simp only [List.setIfInBounds_toArray, List.set_cons_zero, List.set_cons_succ]
                    refine take_at (i := 16) (d := 59) (v := .int .i64 j) rfl rfl (by kernel_rfl) (by kernel_rfl) (by kernel_rfl) (fun _ _ _ h => h) (Or.inl ⟨by rfl, ?_⟩) hS ?_
                    · rintro W ⟨⟨x0, x1, x2, x3, x4⟩, y0, y1, y2, y3, y4⟩
                      go_simp
                    simp only [List.setIfInBounds_toArray, List.set_cons_zero, List.set_cons_succ]
                    refine take_at (i := 17) (d := 60) (v := .bool false) rfl rfl (by kernel_rfl) (by kernel_rfl) (by kernel_rfl) (fun _ _ _ h => h) (Or.inl ⟨by rfl, ?_⟩) hS ?_
                    · rintro W ⟨⟨x0, x1, x2, x3, x4⟩, y0, y1, y2, y3, y4⟩
                      go_simp
                    simp only [List.setIfInBounds_toArray, List.set_cons_zero, List.set_cons_succ]
                    refine take_at (i := 18) (d := 61) (v := .bool false) rfl rfl (by kernel_rfl) (by kernel_rfl) (by kernel_rfl) (fun _ _ _ h => h) (Or.inl ⟨by rfl, ?_⟩) hS ?_
                    · rintro W ⟨⟨x0, x1, x2, x3, x4⟩, y0, y1, y2, y3, y4⟩
                      go_simp
                    simp only [List.setIfInBounds_toArray, List.set_cons_zero, List.set_cons_succ]
                    refine wpAnyH_ready (rs := [19]) (by kernel_rfl) (by simp) ?_
                    refine AllReadyH.cons rfl (fun K hK => ?_) AllReadyH.nil
                    go_simp
                    refine (CU _).mono ?_
                    rintro e wu ⟨rfl, hnu⟩
                    have hbu : Below wc.heap.size wc wu := hbt.trans (hnu.mono hbt.size)
                    go_wp2_with fail
                    refine hK.out _ _ (HCE.out _ hbu) (fun hS => ?_)
                    clear hK K
                    refine take_at (i := 20) (d := 63) (v := .bool N) rfl rfl (by kernel_rfl) (by kernel_rfl) (by kernel_rfl) (fun _ _ _ h => h) (Or.inl ⟨by rfl, ?_⟩) hS ?_
                    · rintro W ⟨⟨x0, x1, x2, x3, x4⟩, y0, y1, y2, y3, y4⟩
                      (go_simp; rw [← HNE.out]; first | exact said2 | exact said3)
                    simp only [List.setIfInBounds_toArray, List.set_cons_zero, List.set_cons_succ]
                    refine wpAnyH_done (by kernel_rfl) ?_ _
                    have hBu : Below w.heap.size w wu := hBd.trans (hbu.mono hBd.size)
                    clear hnt hnu CT CU hS HCE HNE
                    cases N with
                    | true =>
                      have HF : Hid (R = false) := Lib.hid (by rw [HJ.out, HNT.out]; rfl)
                      clear HJ HNT
                      go_wp2
                      go_ret
                      exact ⟨rb (by rw [HF.out]), hBu⟩
                    | false =>
                      have HN : Hid (R = toksAl true (j + 1) (LP.drop (j + 1)) (LQ.drop (j + 1))) := Lib.hid (by rw [HJ.out, HNT.out]; rfl)
                      clear HJ HNT
                      go_wp2
                      refine ⟨⟨j + 1, by omega, by go_num, HN, hbu⟩, ?_⟩
                      simp [intOf]; omega
              · have HN : Hid (R = true) := Lib.hid (by rw [HJ0.out, toksAl_end (by omega)])
                clear HJ0
                go_wp2
                go_ret
                exact ⟨rb (by rw [HN.out]), hBd.trans (hbx.mono hBd.size)⟩
        · have lf : ((LP.length : Int) != (LQ.length : Int)) = true := by rw [bne_iff_ne]; omega
          have HF3 : Hid (R = false) := Lib.hid (by rw [HRB.out]; simp [hll])
          clear HRB hll
          go_wp2
          go_ret
          exact ⟨rb (by rw [HF3.out]), hB2⟩
    · have nf : (!(p.nm.toList == q.nm.toList)) = true := by simpa using hnn
      have HF3 : Hid (R = false) := Lib.hid (by rw [HRA.out, Bool.eq_false_iff.2 hnn]; simp)
      clear HRA hdd hnn
      go_wp2
      go_ret
      exact ⟨rb (by rw [HF3.out]), hb0⟩
  · have df : (!(p.d == q.d)) = true := by simp [hdd]
    have HF3 : Hid (R = false) := Lib.hid (by rw [HRA.out, show (p.d == q.d) = false by simpa using hdd]; simp)
    clear HRA hdd
    go_wp2
    go_ret
    exact ⟨rb (by rw [HF3.out]), hb0⟩

end Go.Proofs.Ytpomcdolpmbhdaa
