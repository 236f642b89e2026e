/- The law LinesNames: the chapter's examples. -/
import Derived.Test.YtpomcdolpmbhdaaLnAlive
import Derived.Test.YtpomcdolpmbhdaaDepA
import Derived.Test.YtpomcdolpmbhdaaAlikeA
import Derived.BigQuiet
import Derived.Deep.QuietTactic
namespace Go.Proofs.Ytpomcdolpmbhdaa
open Go.RowKit Go.Shelf

theorem rowsT_F (s : ByteArray) : rowsT s = rowsS (tksF s.data.toList) := by unfold rowsT; rw [tks_F]
theorem rowsT_small (s : ByteArray) : ∀ r ∈ rowsT s, r.ts.length * 48 ≤ 140737488355328 ∧ ∀ t ∈ r.ts, t.tx.size ≤ 140737488355328 := fun r hr => by
  obtain ⟨h1, h2⟩ := tks_fit s
  refine ⟨((rowsT_fit s).1 r hr).1, fun t ht => ?_⟩
  rcases rows_toks (linesS (tksOf s)) [] r t hr ht with ⟨q, hq, _⟩ | ⟨l, hl, hlt⟩
  · cases hq
  · refine Nat.le_trans (h2 t ?_) (by decide)
    rw [← linesF_flat (tksOf s)]
    exact List.mem_flatten.2 ⟨l, hl, hlt⟩

def oneP (f : Rz → Bool) : List Rz → Bool
  | [p] => f p
  | _ => false
/-- Does a text nest as these digits say? -/
def nestB (l want : List UInt8) : Bool := match depS (rowsS (tksF l)) with
  | none => want == []
  | some o => o.map (fun x => x + 48) == want.map (·.toNat)

set_option maxRecDepth 100000 in
set_option maxHeartbeats 4000000 in
theorem nests_any (s want : ByteArray) (w : World) (hs : s.size ≤ maxLen) (hz : want.size ≤ 65536) (hL : LibVar w) (hok : nestB s.data.toList want.data.toList = true) :
    Calls Try.prog 23 #[.string s, .string want] w fun e w' => e = .returned (.bool true) ∧ Below w.heap.size w w' := by
  have CR := lrows_any s w hs hL
  obtain ⟨hf, hl⟩ := rowsT_fit s
  unfold nestB at hok
  rw [← rowsT_F] at hok
  obtain ⟨Q, hQ⟩ : ∃ Q, rowsT s = Q := ⟨_, rfl⟩
  rw [hQ] at hok CR hl
  clear hQ hf hL
  cases hd : depS Q with
  | none =>
    rw [hd] at hok
    have hE := depE_none hd
    obtain rfl : want = ⟨#[]⟩ := by
      have h : want.data.toList = [] := by simpa using hok
      cases want
      congr 1
      exact Array.toList_eq_nil_iff.1 h
    have HD := Lib.hid hd
    clear hok hd
    go_enter Try.func23, Try.ntmps23
    go_wp2_with fail
    refine CR.mono ?_
    rintro e w1 ⟨⟨a1, c1, rfl, -, hi1⟩, hb1⟩
    have CD := depths_any Q.length c1 a1 w1 Q (by omega) rfl hi1
    rw [hE] at CD
    clear CR hi1 hE
    go_wp2_with fail
    refine CD.mono ?_
    rintro e w2 ⟨⟨v2, rfl, -, h2⟩, hb2⟩
    have hB2 := hb1.trans (hb2.mono hb1.size)
    obtain ⟨b, c, rfl⟩ := h2 HD.out
    clear CD h2
    go_wp2
    go_ret
    exact ⟨rfl, hB2⟩
  | some d =>
    rw [hd] at hok
    have hE := depE_some hd
    have hmap : d.map (fun x => x + 48) = want.data.toList.map (·.toNat) := by simpa using hok
    have hlen : d.length = want.size := by
      have := congrArg List.length hmap
      rw [List.length_map, List.length_map, size_list] at this
      exact this
    have hel : ∀ k (h : k < want.size) x, d[k]? = some x → (want[k].toNat : Int) = (x : Int) + 48 := fun k h x hx => by
      have h1 := congrArg (fun l => l[k]?) hmap
      simp only [List.getElem?_map, hx, Option.map_some] at h1
      have h2 : want.data.toList[k]? = some want[k] := by
        rw [List.getElem?_eq_getElem (by rw [size_list]; exact h)]; rfl
      rw [h2, Option.map_some, Option.some.injEq] at h1
      omega
    have HD := Lib.hid hd
    have HE := Lib.hid hel
    have HLEN := Lib.hid hlen
    clear hok hd hmap hel hlen
    go_enter Try.func23, Try.ntmps23
    go_wp2_with fail
    refine CR.mono ?_
    rintro e w1 ⟨⟨a1, c1, rfl, -, hi1⟩, hb1⟩
    have CD := depths_any Q.length c1 a1 w1 Q (by omega) rfl hi1
    rw [hE] at CD
    clear CR hi1 hE
    go_wp2_with fail
    refine CD.mono ?_
    rintro e w2 ⟨⟨v2, rfl, h2, -⟩, hb2⟩
    have hB2 := hb1.trans (hb2.mono hb1.size)
    obtain ⟨a2, c2, rfl, hI2⟩ := ints_own (h2 d HD.out)
    rw [HLEN.out]
    have HI2 := Lib.hid hI2
    have hne : ((want.size : Int) != (want.size : Int)) = false := by simp
    clear CD h2 hI2
    go_wp2
    go_loopw [7] (fun i wx => ∃ k : Nat, k ≤ want.size ∧ i = .int .i64 k ∧ ∃ q, wx = w2.drewN q) (fun i _ => want.size - (intOf i).toNat)
    case atStart => exact ⟨0, Nat.zero_le _, rfl, 0, rfl⟩
    case round =>
      obtain ⟨k, hk, rfl, q, rfl⟩ := hrel
      by_cases hlt : k < want.size
      · obtain ⟨x, hx⟩ : ∃ x, d[k]? = some x := ⟨_, List.getElem?_eq_getElem (by rw [HLEN.out]; exact hlt)⟩
        obtain ⟨b, ob, rfl, hr⟩ := (HI2.out w2 (Below.refl _ _)) (by rw [HLEN.out]; omega)
        have c0 := hr k x hx
        have hwk := HE.out k hlt x hx
        have hxb : (x : Int) ≤ 207 := by have := want[k].toNat_lt; omega
        have hx0 : (0 : Int) ≤ (x : Int) := by omega
        clear hr hx
        have j1 : (k : Int) < (want.size : Int) := by omega
        have j0 : (0 : Int) ≤ (k : Int) := by omega
        go_wp2
        go_big_quiet (fail)
        go_wp2
        refine ⟨⟨k + 1, by omega, by go_num, _, rfl⟩, ?_⟩
        simp [intOf]; omega
      · go_wp2
        go_ret
        exact ⟨rfl, below_drewN hB2 q⟩

theorem ln_x : oneP (fun p => p.d && p.nm.data == #[] && (saysS p).length == 1) (rowsS (tksF [47, 42, 32, 120, 32, 42, 47, 32, 35, 32, 49, 50, 10])) = true := by decide +kernel
theorem ln_y : oneP (fun p => (saysS p).length == 0) (rowsS (tksF [35, 10])) = true := by decide +kernel
theorem ln_z : oneP (fun p => (saysS p).length == 1) (rowsS (tksF [37, 58, 97, 32, 98, 10])) = true := by decide +kernel
theorem ln_e : (rowsS (tksF [])).length = 0 := by decide +kernel
theorem ln_n0 : nestB [35, 105, 102, 32, 49, 10, 120, 10, 35, 101, 108, 115, 101, 10, 35, 101, 110, 100, 105, 102, 10] [48, 49, 48, 48] = true := by decide +kernel
theorem ln_n1 : nestB [35, 101, 108, 115, 101, 10] [] = true := by decide +kernel
theorem ln_n2 : nestB [35, 105, 102, 10, 35, 101, 108, 115, 101, 10, 35, 101, 108, 105, 102, 10, 35, 101, 110, 100, 105, 102, 10] [] = true := by decide +kernel
theorem ln_n3 : nestB [35, 105, 102, 100, 101, 102, 10] [] = true := by decide +kernel
theorem ln_n4 : nestB [35, 105, 102, 110, 100, 101, 102, 32, 97, 10, 35, 105, 102, 32, 98, 10, 35, 101, 108, 105, 102, 10, 35, 101, 108, 105, 102, 10, 35, 101, 108, 115, 101, 10, 35, 101, 110, 100, 105, 102, 10, 35, 101, 110, 100, 105, 102, 10] [48, 49, 49, 49, 49, 49, 48] = true := by decide +kernel
theorem ln_a0 : alikeS (rowsS (tksF [35, 100, 101, 102, 105, 110, 101, 32, 102, 40, 120, 41, 10])) (rowsS (tksF [35, 100, 101, 102, 105, 110, 101, 32, 102, 32, 40, 120, 41, 10])) false = false := by decide +kernel
theorem ln_a1 : alikeS (rowsS (tksF [97, 32, 98, 10, 10])) (rowsS (tksF [47, 42, 42, 47, 10, 97, 10, 98, 10])) true = true := by decide +kernel
theorem ln_a2 : alikeS (rowsS (tksF [102, 40, 97, 44, 98, 41, 10])) (rowsS (tksF [102, 32, 40, 97, 44, 32, 98, 41, 10])) false = true := by decide +kernel
theorem ln_a3 : alikeS (rowsS (tksF [102, 40, 97, 44, 98, 41, 10])) (rowsS (tksF [102, 32, 40, 97, 44, 32, 98, 41, 10])) true = false := by decide +kernel
theorem ln_one {rs : List Rz} {f : Rz → Bool} (h : oneP f rs = true) : ∃ p, rs = [p] ∧ f p = true := by
  match rs, h with
  | [p], h => exact ⟨p, rfl, h⟩
theorem lrows_at {w0 wk : World} (s : ByteArray) (rs : List Rz) (hr : rowsS (tksF s.data.toList) = rs) (hs : s.size ≤ maxLen) (hL : LibVar w0) (hb : Below w0.heap.size w0 wk) :
    Calls Try.prog 21 #[.string s] wk fun e w' => (∃ a cap, e = .returned (.slice a rs.length cap) ∧ rs.length ≤ cap ∧ RzIn w' a rs) ∧ Below wk.heap.size wk w' := by
  have := lrows_any s wk hs (hL.low hb)
  rw [rowsT_F, hr] at this
  exact this
theorem nests_at {w0 wk : World} (s want : ByteArray) (h : nestB s.data.toList want.data.toList = true) (hs : s.size ≤ maxLen) (hz : want.size ≤ 65536) (hL : LibVar w0) (hb : Below w0.heap.size w0 wk) :
    Calls Try.prog 23 #[.string s, .string want] wk fun e w' => e = .returned (.bool true) ∧ Below wk.heap.size wk w' := nests_any s want wk hs hz (hL.low hb) h
/-- Two closed texts' rows, and whether they say the same. -/
theorem al_pack (s t : ByteArray) (keep r : Bool) (h : alikeS (rowsS (tksF s.data.toList)) (rowsS (tksF t.data.toList)) keep = r) : ∃ A B : List Rz, rowsS (tksF s.data.toList) = A ∧ rowsS (tksF t.data.toList) = B ∧
    ∀ (wk : World) (a1 a2 : Option Addr) (c1 c2 : Nat), B.length ≤ c2 → RzIn wk a1 A → RzIn wk a2 B → Calls Try.prog 19 #[.slice a1 A.length c1, .slice a2 B.length c2, .bool keep] wk fun e w' => e = .returned (.bool r) ∧ Below wk.heap.size wk w' := by
  have hl1 := (rowsT_fit s).2
  have hl2 := (rowsT_fit t).2
  have hs1 := rowsT_small s
  have hs2 := rowsT_small t
  rw [rowsT_F] at hl1 hl2 hs1 hs2
  generalize rowsS (tksF s.data.toList) = A at *
  generalize rowsS (tksF t.data.toList) = B at *
  refine ⟨A, B, rfl, rfl, fun wk a1 a2 c1 c2 hc h1 h2 => ?_⟩
  have := alike_any A.length B.length c1 c2 a1 a2 keep wk A B rfl rfl (by omega) (by omega) hc hs1 hs2 h1 h2
  rw [h] at this
  exact this

set_option maxRecDepth 100000 in
set_option maxHeartbeats 8000000 in
theorem lnames_any (w : World) (hL : LibVar w) : Calls Try.prog 6 #[] w fun e w' => e = .returned (.bool true) ∧ Below w.heap.size w w' := by
  obtain ⟨px, hx, hpx⟩ := ln_one ln_x
  obtain ⟨py, hy, hpy⟩ := ln_one ln_y
  obtain ⟨pz, hz, hpz⟩ := ln_one ln_z
  simp only [Bool.and_eq_true, beq_iff_eq] at hpx hpy hpz
  obtain ⟨⟨hxd, hxn⟩, hxs⟩ := hpx
  have hxn2 : px.nm = ⟨#[]⟩ := by
    obtain ⟨d, nm, ts⟩ := px
    cases nm
    simp only at hxn ⊢
    rw [hxn]
  have fx := (rowsT_fit ⟨#[47, 42, 32, 120, 32, 42, 47, 32, 35, 32, 49, 50, 10]⟩).1
  have fy := (rowsT_fit ⟨#[35, 10]⟩).1
  have fz := (rowsT_fit ⟨#[37, 58, 97, 32, 98, 10]⟩).1
  rw [rowsT_F, show (⟨#[47, 42, 32, 120, 32, 42, 47, 32, 35, 32, 49, 50, 10]⟩ : ByteArray).data.toList = [47, 42, 32, 120, 32, 42, 47, 32, 35, 32, 49, 50, 10] from rfl, hx] at fx
  rw [rowsT_F, show (⟨#[35, 10]⟩ : ByteArray).data.toList = [35, 10] from rfl, hy] at fy
  rw [rowsT_F, show (⟨#[37, 58, 97, 32, 98, 10]⟩ : ByteArray).data.toList = [37, 58, 97, 32, 98, 10] from rfl, hz] at fz
  have CSx := fun (cap : Nat) (a : Option Addr) (w' : World) (h : RzIn w' a [px]) => lsays_any [px] 1 cap a 0 w' rfl (by decide) (by decide) fx h
  have CSy := fun (cap : Nat) (a : Option Addr) (w' : World) (h : RzIn w' a [py]) => lsays_any [py] 1 cap a 0 w' rfl (by decide) (by decide) fy h
  have CSz := fun (cap : Nat) (a : Option Addr) (w' : World) (h : RzIn w' a [pz]) => lsays_any [pz] 1 cap a 0 w' rfl (by decide) (by decide) fz h
  rw [show sayN [px] 0 = 1 by unfold sayN; simp [hxs]] at CSx
  rw [show sayN [py] 0 = 0 by unfold sayN; simp [hpy]] at CSy
  rw [show sayN [pz] 0 = 1 by unfold sayN; simp [hpz]] at CSz
  obtain ⟨A0, B0, hA0, hB0, hCA0⟩ := al_pack ⟨#[35, 100, 101, 102, 105, 110, 101, 32, 102, 40, 120, 41, 10]⟩ ⟨#[35, 100, 101, 102, 105, 110, 101, 32, 102, 32, 40, 120, 41, 10]⟩ false false ln_a0
  have HA0 := Lib.hid hA0
  have HB0 := Lib.hid hB0
  have CA0 := Lib.hid hCA0
  clear hA0 hB0 hCA0
  obtain ⟨A1, B1, hA1, hB1, hCA1⟩ := al_pack ⟨#[97, 32, 98, 10, 10]⟩ ⟨#[47, 42, 42, 47, 10, 97, 10, 98, 10]⟩ true true ln_a1
  have HA1 := Lib.hid hA1
  have HB1 := Lib.hid hB1
  have CA1 := Lib.hid hCA1
  clear hA1 hB1 hCA1
  obtain ⟨A2, B2, hA2, hB2, hCA2⟩ := al_pack ⟨#[102, 40, 97, 44, 98, 41, 10]⟩ ⟨#[102, 32, 40, 97, 44, 32, 98, 41, 10]⟩ false true ln_a2
  have HA2 := Lib.hid hA2
  have HB2 := Lib.hid hB2
  have CA2 := Lib.hid hCA2
  clear hA2 hB2 hCA2
  obtain ⟨A3, B3, hA3, hB3, hCA3⟩ := al_pack ⟨#[102, 40, 97, 44, 98, 41, 10]⟩ ⟨#[102, 32, 40, 97, 44, 32, 98, 41, 10]⟩ true false ln_a3
  have HA3 := Lib.hid hA3
  have HB3 := Lib.hid hB3
  have CA3 := Lib.hid hCA3
  clear hA3 hB3 hCA3
  have HX := Lib.hid hx
  have HY := Lib.hid hy
  have HZ := Lib.hid hz
  have HXD := Lib.hid hxd
  have HXN := Lib.hid hxn2
  have HLV := Lib.hid hL
  clear hx hy hz hpy hpz hxd hxn hxs hxn2 fx fy fz hL
  go_enter Try.func6, Try.ntmps6
  go_wp2_with fail
  refine (lrows_at ⟨#[47, 42, 32, 120, 32, 42, 47, 32, 35, 32, 49, 50, 10]⟩ [px] HX.out (by unfold maxLen; decide) HLV.out (Below.refl _ _)).mono ?_
  rintro e w1 ⟨⟨ax, cx, rfl, -, hix⟩, hb1⟩
  have hB1 := hb1
  have HIX := Lib.hid hix
  clear hix
  go_wp2_with fail
  refine (lrows_at ⟨#[35, 10]⟩ [py] HY.out (by unfold maxLen; decide) HLV.out hB1).mono ?_
  rintro e w2 ⟨⟨ay, cy, rfl, -, hiy⟩, hb2⟩
  have hB2 := hB1.trans (hb2.mono hB1.size)
  have HIY := Lib.hid hiy
  clear hiy
  obtain ⟨bx, ox, rfl, _, hzx⟩ := HIX.out.below hb2 (by simp)
  obtain ⟨x0, x1, -⟩ := hzx 0 px rfl
  rw [HXD.out, Nat.zero_mul, Nat.add_zero] at x0
  rw [HXN.out, Nat.zero_mul, Nat.add_zero] at x1
  clear hzx
  go_wp2_with fail
  refine (CSx _ _ _ (HIX.out.below hb2)).mono ?_
  rintro e w3 ⟨rfl, hb3⟩
  have hB3 := hB2.trans (hb3.mono hB2.size)
  go_wp2_with fail
  refine (CSy _ _ _ (HIY.out.below hb3)).mono ?_
  rintro e w4 ⟨rfl, hb4⟩
  have hB4 := hB3.trans (hb4.mono hB3.size)
  go_wp2_with fail
  refine (lrows_at ⟨#[37, 58, 97, 32, 98, 10]⟩ [pz] HZ.out (by unfold maxLen; decide) HLV.out hB4).mono ?_
  rintro e w5 ⟨⟨az, cz, rfl, -, hiz⟩, hb5⟩
  have hB5 := hB4.trans (hb5.mono hB4.size)
  go_wp2_with fail
  refine (CSz _ _ _ hiz).mono ?_
  rintro e w6 ⟨rfl, hb6⟩
  have hB6 := hB5.trans (hb6.mono hB5.size)
  go_wp2_with fail
  refine (lrows_at ⟨#[]⟩ [] (List.length_eq_zero_iff.1 ln_e) (by unfold maxLen; decide) HLV.out hB6).mono ?_
  rintro e w7 ⟨⟨ae, ce, rfl, -, -⟩, hb7⟩
  have hB7 := hB6.trans (hb7.mono hB6.size)
  clear hiz x0 x1 CSx CSy CSz
  go_wp2_with fail
  refine (nests_at ⟨#[35, 105, 102, 32, 49, 10, 120, 10, 35, 101, 108, 115, 101, 10, 35, 101, 110, 100, 105, 102, 10]⟩ ⟨#[48, 49, 48, 48]⟩ ln_n0 (by unfold maxLen; decide) (by decide) HLV.out hB7).mono ?_
  rintro e w8 ⟨rfl, hb8⟩
  have hB8 := hB7.trans (hb8.mono hB7.size)
  go_wp2_with fail
  refine (nests_at ⟨#[35, 101, 108, 115, 101, 10]⟩ ⟨#[]⟩ ln_n1 (by unfold maxLen; decide) (by decide) HLV.out hB8).mono ?_
  rintro e w9 ⟨rfl, hb9⟩
  have hB9 := hB8.trans (hb9.mono hB8.size)
  go_wp2_with fail
  refine (nests_at ⟨#[35, 105, 102, 10, 35, 101, 108, 115, 101, 10, 35, 101, 108, 105, 102, 10, 35, 101, 110, 100, 105, 102, 10]⟩ ⟨#[]⟩ ln_n2 (by unfold maxLen; decide) (by decide) HLV.out hB9).mono ?_
  rintro e w10 ⟨rfl, hb10⟩
  have hB10 := hB9.trans (hb10.mono hB9.size)
  go_wp2_with fail
  refine (nests_at ⟨#[35, 105, 102, 100, 101, 102, 10]⟩ ⟨#[]⟩ ln_n3 (by unfold maxLen; decide) (by decide) HLV.out hB10).mono ?_
  rintro e w11 ⟨rfl, hb11⟩
  have hB11 := hB10.trans (hb11.mono hB10.size)
  go_wp2_with fail
  refine (nests_at ⟨#[35, 105, 102, 110, 100, 101, 102, 32, 97, 10, 35, 105, 102, 32, 98, 10, 35, 101, 108, 105, 102, 10, 35, 101, 108, 105, 102, 10, 35, 101, 108, 115, 101, 10, 35, 101, 110, 100, 105, 102, 10, 35, 101, 110, 100, 105, 102, 10]⟩ ⟨#[48, 49, 49, 49, 49, 49, 48]⟩ ln_n4 (by unfold maxLen; decide) (by decide) HLV.out hB11).mono ?_
  rintro e w12 ⟨rfl, hb12⟩
  have hB12 := hB11.trans (hb12.mono hB11.size)
  go_wp2_with fail
  refine (lrows_at ⟨#[35, 100, 101, 102, 105, 110, 101, 32, 102, 40, 120, 41, 10]⟩ A0 HA0.out (by unfold maxLen; decide) HLV.out hB12).mono ?_
  rintro e w13 ⟨⟨p0, c0, rfl, -, hp0⟩, hb13⟩
  have hB13 := hB12.trans (hb13.mono hB12.size)
  have HP0 := Lib.hid hp0
  clear hp0
  go_wp2_with fail
  refine (lrows_at ⟨#[35, 100, 101, 102, 105, 110, 101, 32, 102, 32, 40, 120, 41, 10]⟩ B0 HB0.out (by unfold maxLen; decide) HLV.out hB13).mono ?_
  rintro e w14 ⟨⟨q0, d0, rfl, hc0, hq0⟩, hb14⟩
  have hB14 := hB13.trans (hb14.mono hB13.size)
  have hbx0 := CA0.out _ _ _ c0 _ hc0 (HP0.out.below hb14) hq0
  clear hq0 hc0
  go_wp2_with fail
  refine (hbx0).mono ?_
  rintro e w15 ⟨rfl, hb15⟩
  have hB15 := hB14.trans (hb15.mono hB14.size)
  clear hbx0
  go_wp2_with fail
  refine (lrows_at ⟨#[97, 32, 98, 10, 10]⟩ A1 HA1.out (by unfold maxLen; decide) HLV.out hB15).mono ?_
  rintro e w16 ⟨⟨p1, c1, rfl, -, hp1⟩, hb16⟩
  have hB16 := hB15.trans (hb16.mono hB15.size)
  have HP1 := Lib.hid hp1
  clear hp1
  go_wp2_with fail
  refine (lrows_at ⟨#[47, 42, 42, 47, 10, 97, 10, 98, 10]⟩ B1 HB1.out (by unfold maxLen; decide) HLV.out hB16).mono ?_
  rintro e w17 ⟨⟨q1, d1, rfl, hc1, hq1⟩, hb17⟩
  have hB17 := hB16.trans (hb17.mono hB16.size)
  have hbx1 := CA1.out _ _ _ c1 _ hc1 (HP1.out.below hb17) hq1
  clear hq1 hc1
  go_wp2_with fail
  refine (hbx1).mono ?_
  rintro e w18 ⟨rfl, hb18⟩
  have hB18 := hB17.trans (hb18.mono hB17.size)
  clear hbx1
  go_wp2_with fail
  refine (lrows_at ⟨#[102, 40, 97, 44, 98, 41, 10]⟩ A2 HA2.out (by unfold maxLen; decide) HLV.out hB18).mono ?_
  rintro e w19 ⟨⟨p2, c2, rfl, -, hp2⟩, hb19⟩
  have hB19 := hB18.trans (hb19.mono hB18.size)
  have HP2 := Lib.hid hp2
  clear hp2
  go_wp2_with fail
  refine (lrows_at ⟨#[102, 32, 40, 97, 44, 32, 98, 41, 10]⟩ B2 HB2.out (by unfold maxLen; decide) HLV.out hB19).mono ?_
  rintro e w20 ⟨⟨q2, d2, rfl, hc2, hq2⟩, hb20⟩
  have hB20 := hB19.trans (hb20.mono hB19.size)
  have hbx2 := CA2.out _ _ _ c2 _ hc2 (HP2.out.below hb20) hq2
  clear hq2 hc2
  go_wp2_with fail
  refine (hbx2).mono ?_
  rintro e w21 ⟨rfl, hb21⟩
  have hB21 := hB20.trans (hb21.mono hB20.size)
  clear hbx2
  go_wp2_with fail
  refine (lrows_at ⟨#[102, 40, 97, 44, 98, 41, 10]⟩ A3 HA3.out (by unfold maxLen; decide) HLV.out hB21).mono ?_
  rintro e w22 ⟨⟨p3, c3, rfl, -, hp3⟩, hb22⟩
  have hB22 := hB21.trans (hb22.mono hB21.size)
  have HP3 := Lib.hid hp3
  clear hp3
  go_wp2_with fail
  refine (lrows_at ⟨#[102, 32, 40, 97, 44, 32, 98, 41, 10]⟩ B3 HB3.out (by unfold maxLen; decide) HLV.out hB22).mono ?_
  rintro e w23 ⟨⟨q3, d3, rfl, hc3, hq3⟩, hb23⟩
  have hB23 := hB22.trans (hb23.mono hB22.size)
  have hbx3 := CA3.out _ _ _ c3 _ hc3 (HP3.out.below hb23) hq3
  clear hq3 hc3
  go_wp2_with fail
  refine (hbx3).mono ?_
  rintro e w24 ⟨rfl, hb24⟩
  have hB24 := hB23.trans (hb24.mono hB23.size)
  clear hbx3
  go_wp2_with fail
  refine (alive_any _ (HLV.out.low hB24)).mono ?_
  rintro e w25 ⟨rfl, hb25⟩
  have hB25 := hB24.trans (hb25.mono hB24.size)
  go_wp2
  go_ret
  exact ⟨rfl, hB25⟩

end Go.Proofs.Ytpomcdolpmbhdaa
