/- The law LinesWhole: its walk. -/
import Derived.Test.YtpomcdolpmbhdaaLnAlive
import Derived.Test.YtpomcdolpmbhdaaWholeS
import Derived.IntWalk
import Derived.Deep.LoopGhost
import Derived.Deep.DeepCutAuto
import Derived.Outline
namespace Go.Proofs.Ytpomcdolpmbhdaa
open Go.RowKit

theorem flatR_take {rs : List Rz} {k : Nat} {r : Rz} (h : rs[k]? = some r) : flatR (rs.take (k + 1)) = flatR (rs.take k) ++ r.ts := by
  rw [List.take_add_one, h]; simp [flatR]
theorem flatR_len {rs : List Rz} (k : Nat) : (flatR (rs.take k)).length ≤ (flatR rs).length := by
  have : flatR rs = flatR (rs.take k) ++ flatR (rs.drop k) := by
    unfold flatR
    rw [← List.flatMap_append, List.take_append_drop]
  rw [this, List.length_append]; omega
theorem whole_len : ∀ {rs : List Rz}, (∀ r ∈ rs, r.ts ≠ []) → rs.length ≤ (flatR rs).length
  | [], _ => Nat.le_refl _
  | r :: rs, h => by
    have h1 := List.length_pos_iff.2 (h r List.mem_cons_self)
    have h2 := whole_len (rs := rs) (fun x hx => h x (List.mem_cons_of_mem _ hx))
    unfold flatR at h2 ⊢
    rw [List.flatMap_cons, List.length_append, List.length_cons]; omega
theorem mem_flat {rs : List Rz} {r : Rz} (h : r ∈ rs) : r.ts.length ≤ (flatR rs).length := by
  obtain ⟨a, b, rfl⟩ := List.append_of_mem h
  simp [flatR]; omega

set_option maxRecDepth 100000 in
set_option maxHeartbeats 4000000 in
theorem whole_any (n cap : Nat) (a : Option Addr) (w : World) (ts : List Tz) (hn2 : n * 48 ≤ 140737488355328) (hnc : n ≤ cap) (hn : ts.length = n) (hx : ∀ t ∈ ts, t.tx.size ≤ 281474976710656) (hT : TzIn w a ts) (hL : LibVar w) :
    Calls Try.prog 7 #[.slice a n cap] w fun e w' => e = .returned (.bool true) ∧ Below w.heap.size w w' := by
  obtain ⟨i0, hi, hz0, hz1, hz2⟩ := info_parts infoTz
  have ET : ElemOk Try.prog 22 31 i0 (.agg #[.int .i64 0, .string ⟨#[]⟩, .int .i64 0, .int .i64 0, .bool false]) 5 48 := ⟨Try.underlying22, hi, hz0, hz1, hz2, rfl, by decide⟩
  have CA := alive_any w hL
  have CP := fun (w' : World) (hb : Below w.heap.size w w') => rows_in_any n cap a w' hn2 hnc ts hn hx (hT.below hb)
  have CS := fun (a' : Option Addr) (cap' : Nat) (w' : World) (hb : Below w.heap.size w w') (h1 : TzIn w' a' ts) => same_any ts n cap' cap a' a w' hn (by unfold maxLen; omega) (fun hp => by
    obtain ⟨b, o, e, _, h⟩ := h1 (by rw [hn]; exact hp)
    exact ⟨b, o, e, h⟩) (fun hp => by
    obtain ⟨b, o, e, _, h⟩ := (hT.below hb) (by rw [hn]; exact hp)
    exact ⟨b, o, e, h⟩)
  obtain ⟨R, hR⟩ : ∃ R, rowsS ts = R := ⟨_, rfl⟩
  have hW := rowsS_whole ts
  have hF := rowsS_flat ts
  rw [hR] at CP hW hF
  obtain ⟨m, hm⟩ : ∃ m, R.length = m := ⟨_, rfl⟩
  rw [hm] at CP
  have hmn : m ≤ n := by rw [← hm, ← hn, ← hF]; exact whole_len hW.ne
  have HW := Lib.hid hW
  have HF := Lib.hid hF
  have HM := Lib.hid hm
  have HN := Lib.hid hn
  clear hW hF hm hn hR hT hL hi hz0 hz1 hz2 hx
  go_enter Try.func7, Try.ntmps7
  go_wp2_with fail
  refine CA.mono ?_
  rintro e w1 ⟨rfl, hb1⟩
  clear CA
  go_wp2_with fail
  refine (CP _ hb1).mono ?_
  rintro e w2 ⟨⟨a2, c2, rfl, -, hi2⟩, hb2⟩
  have hB2 := hb1.trans (hb2.mono hb1.size)
  have HI := Lib.hid hi2
  clear CP hb1 hb2 hi2
  go_wp2_with fail
  go_loopg [5, 6] m (fun g al i wx => ∃ k : Nat, k ≤ m ∧ i = .int .i64 k ∧ g = m - k ∧ TokOwn wx w2.heap.size al (flatR (R.take k)) ∧ Below w2.heap.size w2 wx)
  case atStart => exact ⟨0, Nat.zero_le _, rfl, rfl, World.ownsRow_nil _ _ _ _, Below.refl _ _⟩
  case round =>
    obtain ⟨k, hk, rfl, rfl, hO, hbx⟩ := hrel
    have hBx := hB2.trans (hbx.mono hB2.size)
    have hbs := hBx.size
    by_cases hlt : k < m
    · obtain ⟨r, hr⟩ : ∃ r, R[k]? = some r := ⟨_, List.getElem?_eq_getElem (by rw [HM.out]; exact hlt)⟩
      obtain ⟨b, o, rfl, hg1, hrz⟩ := HI.out (by rw [HM.out]; omega)
      have hrzx := hrz.below hbx hg1
      obtain ⟨c0, c1, ta, tcap, c2, htk⟩ := hrzx k r hr
      have htk1 : ToksAt wr wr.heap.size ta r.ts := htk.mono hbx.size
      have hmem := List.mem_of_getElem? hr
      have hne : 0 < r.ts.length := List.length_pos_iff.2 (HW.out.ne r hmem)
      have hrl : r.ts.length ≤ n := by have := mem_flat hmem; rw [HF.out, HN.out] at this; exact this
      have hft : (flatR (R.take k)).length + r.ts.length ≤ n := by
        have h1 := flatR_len (rs := R) (k + 1)
        rw [flatR_take hr, List.length_append, HF.out, HN.out] at h1
        exact h1
      have hfl := flatR_take hr
      have j1 : (k : Int) < (m : Int) := by omega
      have j2 : (0 : Int) ≤ (k : Int) := by omega
      obtain ⟨L, hLe⟩ : ∃ L, r.ts.length = L := ⟨_, rfl⟩
      rw [hLe] at c2 hne hrl hft
      have j3 : ((L : Int) == 0) = false := by
        rw [Bool.eq_false_iff]; simp; omega
      have HNM := Lib.hid (HW.out.nm r hmem)
      have HNL := Lib.hid (HW.out.nl r hmem)
      have HFL := Lib.hid hfl
      have HLE := Lib.hid hLe
      have HTK := Lib.hid htk1
      have hprev : 0 < k → r.d = false → ∃ p : Rz, p.d = true ∧ wr.cell? ⟨b, o + (k - 1) * 3, none⟩ = some (.bool true) := fun hp hd => by
        obtain ⟨p, hpp⟩ : ∃ p, R[k - 1]? = some p := ⟨_, List.getElem?_eq_getElem (by rw [HM.out]; omega)⟩
        have halt := HW.out.alt (k - 1) p r hpp (by rw [show k - 1 + 1 = k by omega]; exact hr)
        rw [hd] at halt
        have hpd : p.d = true := halt.resolve_right (by decide)
        have := (hrzx (k - 1) p hpp).1
        rw [hpd] at this
        exact ⟨p, hpd, this⟩
      clear hr hrz hrzx hfl hLe htk1 htk hmem
      obtain ⟨d, nm, rts⟩ := r
      simp only at c0 c1 HNM HNL HFL HLE HTK hprev
      go_upto_region 7 with fail
      go_cut [60] (fun t wx => t = .bool false ∧ wx = wr)
      case first =>
        cases d with
        | true =>
          clear hprev HNM
          by_cases hp : 0 < k
          · have j4 : (0 : Int) < (k : Int) := by omega
            go_wp2_with fail
            go_meet
            exact ⟨rfl, rfl⟩
          · have j4 : ¬ (0 : Int) < (k : Int) := by omega
            go_wp2_with fail
            go_meet
            exact ⟨rfl, rfl⟩
        | false =>
          obtain rfl := HNM.out rfl
          by_cases hp : 0 < k
          · obtain ⟨p, -, hc⟩ := hprev hp rfl
            have j4 : (0 : Int) < (k : Int) := by omega
            obtain ⟨k', rfl⟩ : ∃ k', k = k' + 1 := ⟨k - 1, by omega⟩
            rw [Nat.add_sub_cancel] at hc
            clear hprev
            go_wp2_with fail
            go_meet
            exact ⟨rfl, rfl⟩
          · have j4 : ¬ (0 : Int) < (k : Int) := by omega
            clear hprev
            go_wp2_with fail
            go_meet
            exact ⟨rfl, rfl⟩
      case rest =>
        obtain ⟨rfl, hw⟩ := hcut
        have hw2 := hw.symm
        subst hw2
        clear hw
        clear hprev HNM
        obtain ⟨gb, ob, rfl, hgb, hta⟩ := HTK.out (by rw [HLE.out]; exact hne)
        have HTA := Lib.hid hta
        have HCE := Lib.hid (tzCells_at hta)
        clear hta
        go_wp2_with fail
        go_loopg [7] L (fun g j wx => ∃ i : Nat, i ≤ L ∧ j = .int .i64 i ∧ g = L - i ∧ wx = wr)
        case atStart => exact ⟨0, Nat.zero_le _, rfl, rfl, rfl⟩
        case round =>
          obtain ⟨i, hiL, rfl, rfl, hw⟩ := hrel
          have hw2 := hw.symm
          subst hw2
          clear hw
          by_cases hi1 : i + 1 < L
          · obtain ⟨t, ht⟩ : ∃ t, rts[i]? = some t := ⟨_, List.getElem?_eq_getElem (by rw [HLE.out]; omega)⟩
            have t0 := (HTA.out i t ht).1
            have j5 : (i : Int) + 1 < (L : Int) := by omega
            have j6 : (0 : Int) ≤ (i : Int) := by omega
            have j7 : (i : Int) < (L : Int) := by omega
            cases d with
            | true =>
              have h9 : (t.k == 9) = false := HNL.out rfl t (by
                rw [List.dropLast_eq_take]
                refine List.mem_of_getElem? (i := i) ?_
                rw [List.getElem?_take_of_lt (by rw [HLE.out]; omega)]
                exact ht)
              clear ht
              go_wp2_with fail
              go_roundg (L - (i + 1))
              case rel => exact ⟨i + 1, by omega, by go_num, rfl, rfl⟩
              case measure => omega
            | false =>
              clear ht
              go_wp2_with fail
              go_roundg (L - (i + 1))
              case rel => exact ⟨i + 1, by omega, by go_num, rfl, rfl⟩
              case measure => omega
          · have j5 : ¬ (i : Int) + 1 < (L : Int) := by omega
            go_wp2_with (at_builtin; refine wpList_fresh ET _ rfl _ _ rfl w2.heap.size _ (flatR (R.take k)).length (tzCells (flatR (R.take k))) rfl hO ⟨gb, ob, none⟩ L tcap (tzCells rts) rfl (by rw [tzCells_len, HLE.out]) HCE.out (tzCells_one _) (by unfold maxLen; omega) (by omega) (by exact hbx.size) ?_; intro v6 w6 hO6 hg6 hf6)
            go_roundg (m - (k + 1))
            case rel =>
              refine ⟨k + 1, by omega, by go_num, rfl, ?_, ?_⟩
              · rw [HFL.out]
                unfold TokOwn
                rw [List.length_append, HLE.out, tzCells_append']
                exact hO6
              · exact hbx.grown hg6 hbx.size (fun j e => (hO.lt j e).1)
            case measure => omega
    · obtain rfl : k = m := by omega
      have hal : flatR (R.take k) = ts := by rw [← HM.out, List.take_length]; exact HF.out
      rw [hal] at hO
      obtain ⟨aa, acap, rfl, hat⟩ := hO.at
      have CSx := CS aa acap wr hBx hat
      rw [HN.out]
      go_wp2_with (go_at_call 14; refine CSx.mono ?_; rintro e w9 ⟨rfl, q, rfl⟩)
      go_ret
      exact ⟨rfl, below_drewN hBx q⟩

end Go.Proofs.Ytpomcdolpmbhdaa
