/- Two equal lists of numbers; what a row says: the document's answer. -/
import Derived.Test.YtpomcdolpmbhdaaDepR2
namespace Go.Proofs.Ytpomcdolpmbhdaa
open Go.RowKit

/-- Where a list of numbers can be read. -/
def IntsIn (W : World) (a : Option Addr) (xs : List Nat) : Prop := 0 < xs.length → ∃ b o, a = some ⟨b, o, none⟩ ∧ ∀ j x, xs[j]? = some x → W.cell? ⟨b, o + j, none⟩ = some (.int .i64 (x : Nat))
set_option maxHeartbeats 1000000 in
theorem ints_any (xs : List Nat) (n c1 c2 : Nat) (a1 a2 : Option Addr) (w : World) (hn : xs.length = n) (hn2 : n ≤ maxLen) (h1 : IntsIn w a1 xs) (h2 : IntsIn w a2 xs) :
    Calls Try.prog 18 #[.slice a1 n c1, .slice a2 n c2] w fun e w' => e = .returned (.bool true) ∧ ∃ q, w' = w.drewN q := by
  unfold maxLen at hn2
  have HN := Lib.hid hn
  have H1 := Lib.hid h1
  have H2 := Lib.hid h2
  clear hn h1 h2
  go_enter Try.func18, Try.ntmps18
  go_wp2
  go_loopw [5] (fun i wx => ∃ k : Nat, k ≤ n ∧ i = .int .i64 k ∧ ∃ q, wx = w.drewN q) (fun i _ => n - (intOf i).toNat)
  case atStart => exact ⟨0, Nat.zero_le _, rfl, 0, rfl⟩
  case round =>
    obtain ⟨k, hk, rfl, q, rfl⟩ := hrel
    by_cases hlt : k < n
    · obtain ⟨x, hx⟩ : ∃ x, xs[k]? = some x := ⟨_, List.getElem?_eq_getElem (by rw [HN.out]; exact hlt)⟩
      obtain ⟨b, o, rfl, hr1⟩ := H1.out (by rw [HN.out]; omega)
      obtain ⟨b2, o2, rfl, hr2⟩ := H2.out (by rw [HN.out]; omega)
      have c0 := hr1 k x hx
      have d0 := hr2 k x hx
      clear hr1 hr2 hx
      have j1 : (k : Int) < (n : Int) := by omega
      have j0 : (0 : Int) ≤ (k : Int) := by omega
      go_wp2
      go_big_quiet (fail)
      go_wp2
      refine ⟨⟨k + 1, by omega, by go_num, _, rfl⟩, ?_⟩
      simp [intOf]; omega
    · go_wp2
      go_ret
      exact ⟨rfl, q, rfl⟩

/-! ### What a row says -/
def bareL (r : Rz) : List Tz := (bareS r.ts).1
def saysS (r : Rz) : List Tz := if r.d then (if 0 < r.nm.size then (bareL r).drop 2 else (bareL r).drop 1) else bareL r
/-- A slice of tokens that can be read. -/
def TzIn (W : World) (a : Option Addr) (ts : List Tz) : Prop := ToksAt W W.heap.size a ts
theorem TzIn.below {W W' : World} {a : Option Addr} {ts : List Tz} (h : TzIn W a ts) (hb : Below W.heap.size W W') : TzIn W' a ts := (ToksAt.below h hb).mono hb.size

theorem TzAt.drop {W : World} {b o : Nat} {ts : List Tz} (h : TzAt W b o ts) (i : Nat) : TzAt W b (o + i * 5) (ts.drop i) := fun j t ht => by
  rw [List.getElem?_drop] at ht
  have := h (i + j) t ht
  have e : o + (i + j) * 5 = o + i * 5 + j * 5 := by omega
  rw [e] at this
  exact this
theorem row_cap2 {w : World} {base n z cap : Nat} {a : Option Addr} {e : TypeId} {xs : List Value} (h : w.ownsRow base e z (.slice a n cap) n xs) : n ≤ cap := by
  rcases h.2 with ⟨h', h0⟩ | ⟨g', cap', cur, h', _, _, hn, _⟩
  · cases h'; exact Nat.zero_le _
  · cases h'; exact hn
/-- regletref02.Bare, its row laid open, with room. -/
theorem rbare_own {ts bs : List Tz} {n m cap : Nat} {a : Option Addr} {w : World} (hbs : (bareS ts).1 = bs) (hm : bs.length = m) (hn : ts.length = n) (hn2 : n * 48 ≤ 140737488355328)
    (hT : 0 < n → ∃ b o, a = some ⟨b, o, none⟩ ∧ b < w.heap.size ∧ TzAt w b o ts) :
    Calls Try.prog 28 #[.slice a n cap] w fun e w' => (∃ a' cap', e = .returned (.slice a' m cap') ∧ m ≤ cap' ∧ (0 < m → ∃ g, a' = some ⟨g, 0, none⟩ ∧ g < w'.heap.size ∧ TzRow w' g bs)) ∧ Below w.heap.size w w' := by
  refine (rbare_any ts n cap a w hn hn2 hT).mono ?_
  rintro e w1 ⟨⟨v, rfl, hr⟩, hb⟩
  rw [hbs, hm] at hr
  obtain ⟨a', cap', rfl, h1, _, _⟩ := tz_shape hm hr
  exact ⟨⟨a', cap', rfl, row_cap2 hr, h1⟩, hb⟩

set_option maxRecDepth 100000 in
set_option maxHeartbeats 2000000 in
theorem rSays_any (r : Rz) (ta : Option Addr) (tcap : Nat) (w : World) (hl : r.ts.length * 48 ≤ 140737488355328) (ht : TzIn w ta r.ts) :
    Calls Try.prog 13 #[.agg #[.bool r.d, .string r.nm, .slice ta r.ts.length tcap]] w fun e w' => (∃ a' cap', e = .returned (.slice a' (saysS r).length cap') ∧ TzIn w' a' (saysS r)) ∧ Below w.heap.size w w' := by
  have hbw := below1 w (.cells #[.bool r.d, .string r.nm, .slice ta r.ts.length tcap] 28)
  have HB1 := rbare_own (ts := r.ts) (bs := bareL r) (cap := tcap) rfl rfl rfl hl (ht.below hbw)
  have hS : saysS r = if r.d then (if 0 < r.nm.size then (bareL r).drop 2 else (bareL r).drop 1) else bareL r := rfl
  have HS := Lib.hid hS
  have hk := mcells (w := w) (vs := #[.bool r.d, .string r.nm, .slice ta r.ts.length tcap]) (t := 28)
  have k0 := hk 0 _ rfl
  have k1 := hk 1 _ rfl
  have hwz : w.heap.size < (w.alloc (.cells #[.bool r.d, .string r.nm, .slice ta r.ts.length tcap] 28)).heap.size := by simp
  obtain ⟨S, hSS⟩ : ∃ S, saysS r = S := ⟨_, rfl⟩
  obtain ⟨L, hLL⟩ : ∃ L, bareL r = L := ⟨_, rfl⟩
  rw [hLL] at HB1 HS
  rw [hSS] at HS ⊢
  have hLs : L.length ≤ 140737488355328 := by
    rw [← hLL]
    have := bareS_len r.ts
    unfold bareL
    omega
  clear hS hSS hLL ht hk
  obtain ⟨d, nm, ts⟩ := r
  simp only at HB1 HS hl hbw k0 k1 hwz ⊢
  cases d
  · have HS2 : Hid (S = L) := HS
    go_enter Try.func13, Try.ntmps13
    go_wp2_with fail
    refine HB1.mono ?_
    rintro e w1 ⟨⟨a', cap', rfl, hcap, hrow⟩, hb1⟩
    have hB := hbw.trans (hb1.mono hbw.size)
    have k0' := (hb1.cell (p := ⟨w.heap.size, 0, none⟩) hwz).trans k0
    clear k0 k1
    go_wp2
    go_ret
    rw [HS2.out]
    exact ⟨⟨a', cap', rfl, fun hp => by obtain ⟨g, e, hg, hr⟩ := hrow hp; exact ⟨g, 0, e, hg, hr.at⟩⟩, hB⟩
  · have HS2 : Hid (S = if 0 < nm.size then L.drop 2 else L.drop 1) := HS
    clear HS
    rcases Nat.eq_zero_or_pos L.length with hL0 | hLp
    · have hLn : L = [] := List.length_eq_zero_iff.1 hL0
      have HS3 : Hid (S = []) := Lib.hid (by rw [HS2.out, hLn]; simp)
      subst hLn
      clear HS2 hL0
      go_enter Try.func13, Try.ntmps13
      go_wp2_with fail
      refine HB1.mono ?_
      rintro e w1 ⟨⟨a', cap', rfl, hcap, hrow⟩, hb1⟩
      have hB := hbw.trans (hb1.mono hbw.size)
      have k0' := (hb1.cell (p := ⟨w.heap.size, 0, none⟩) hwz).trans k0
      clear k0 k1
      go_wp2
      go_ret
      rw [HS3.out]
      exact ⟨⟨a', cap', rfl, fun hp => absurd hp (Nat.lt_irrefl 0)⟩, hB⟩
    · obtain ⟨m, hm⟩ : ∃ m, L.length = m + 1 := ⟨L.length - 1, by omega⟩
      by_cases hnm : 0 < nm.size
      · have b1 : (0 : Int) < (nm.size : Int) := by omega
        have HS3 : Hid (S = L.drop 2) := Lib.hid (by rw [HS2.out, if_pos hnm])
        cases m with
        | zero =>
          have HSm : Hid (S = []) := Lib.hid (by rw [HS3.out, List.drop_eq_nil_of_le (by omega)])
          rw [hm] at HB1
          clear HS2 HS3 hm hLp
          go_enter Try.func13, Try.ntmps13
          go_wp2_with fail
          refine HB1.mono ?_
          rintro e w1 ⟨⟨a', cap', rfl, hcap, hrow⟩, hb1⟩
          obtain ⟨g, rfl, hg, hr⟩ := hrow (Nat.succ_pos _)
          have hB := hbw.trans (hb1.mono hbw.size)
          have k0' := (hb1.cell (p := ⟨w.heap.size, 0, none⟩) hwz).trans k0
          have k1' := (hb1.cell (p := ⟨w.heap.size, 1, none⟩) hwz).trans k1
          have hrA := Lib.hid hr.at
          clear k0 k1 hr
          have i2 : (1 : Int) ≤ (cap' : Int) := by omega
          go_wp2
          all_goals
            go_ret
            rw [HSm.out]
            exact ⟨⟨_, ⟨_, rfl⟩, fun hp => absurd hp (Nat.lt_irrefl 0)⟩, hB⟩
        | succ j =>
          have HSm : Hid (S.length = j) := Lib.hid (by rw [HS3.out, List.length_drop]; omega)
          rw [hm] at HB1
          clear HS2 hm hLp
          go_enter Try.func13, Try.ntmps13
          go_wp2_with fail
          refine HB1.mono ?_
          rintro e w1 ⟨⟨a', cap', rfl, hcap, hrow⟩, hb1⟩
          obtain ⟨g, rfl, hg, hr⟩ := hrow (Nat.succ_pos _)
          have hB := hbw.trans (hb1.mono hbw.size)
          have k0' := (hb1.cell (p := ⟨w.heap.size, 0, none⟩) hwz).trans k0
          have k1' := (hb1.cell (p := ⟨w.heap.size, 1, none⟩) hwz).trans k1
          have hrA := Lib.hid hr.at
          clear k0 k1 hr
          have i1 : (1 : Int) ≤ (j : Int) + 1 + 1 := by omega
          have i2 : (j : Int) + 1 + 1 ≤ (cap' : Int) := by omega
          have i3 : (0 : Int) < (j : Int) + 1 + 1 := by omega
          have i4 : (1 : Int) ≤ (j : Int) + 1 := by omega
          have i5 : (0 : Int) < (j : Int) + 1 := by omega
          have HT2 : Hid (TzIn w1 (some ⟨g, 10, none⟩) S) := Lib.hid (fun _ => ⟨g, 10, rfl, hg, by rw [HS3.out]; exact hrA.out.drop 2⟩)
          go_wp2
          all_goals
            go_ret
            have eS := HSm.out
            rw [eS]
            first
              | exact ⟨⟨_, ⟨_, rfl⟩, HT2.out⟩, hB⟩
              | exact ⟨⟨_, ⟨_, rfl⟩, fun hp => absurd hp (by rw [eS]; omega)⟩, hB⟩
      · have b1 : ¬ (0 : Int) < (nm.size : Int) := by omega
        have HS3 : Hid (S = L.drop 1) := Lib.hid (by rw [HS2.out, if_neg hnm])
        have HSm : Hid (S.length = m) := Lib.hid (by rw [HS3.out, List.length_drop]; omega)
        rw [hm] at HB1
        clear HS2 hm hLp
        go_enter Try.func13, Try.ntmps13
        go_wp2_with fail
        refine HB1.mono ?_
        rintro e w1 ⟨⟨a', cap', rfl, hcap, hrow⟩, hb1⟩
        obtain ⟨g, rfl, hg, hr⟩ := hrow (Nat.succ_pos _)
        have hB := hbw.trans (hb1.mono hbw.size)
        have k0' := (hb1.cell (p := ⟨w.heap.size, 0, none⟩) hwz).trans k0
        have k1' := (hb1.cell (p := ⟨w.heap.size, 1, none⟩) hwz).trans k1
        have hrA := Lib.hid hr.at
        clear k0 k1 hr
        have i1 : (1 : Int) ≤ (m : Int) + 1 := by omega
        have i2 : (m : Int) + 1 ≤ (cap' : Int) := by omega
        have i3 : (0 : Int) < (m : Int) + 1 := by omega
        have HT1 : Hid (TzIn w1 (some ⟨g, 5, none⟩) S) := Lib.hid (fun _ => ⟨g, 5, rfl, hg, by rw [HS3.out]; exact hrA.out.drop 1⟩)
        go_wp2
        all_goals
          go_ret
          have eS := HSm.out
          rw [eS]
          first
            | exact ⟨⟨_, ⟨_, rfl⟩, HT1.out⟩, hB⟩
            | exact ⟨⟨_, ⟨_, rfl⟩, fun hp => absurd hp (by rw [eS]; omega)⟩, hB⟩

end Go.Proofs.Ytpomcdolpmbhdaa
