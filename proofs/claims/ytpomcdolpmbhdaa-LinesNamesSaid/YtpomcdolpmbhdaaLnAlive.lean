/- The law's alive: the chapter's first example. -/
import Derived.Test.YtpomcdolpmbhdaaLnHelp
namespace Go.Proofs.Ytpomcdolpmbhdaa
open Go.RowKit Go.Shelf

def aliveT : ByteArray := ⟨#[97, 10, 35, 100, 101, 102, 105, 110, 101, 32, 88, 10, 98, 10, 99, 10]⟩
def aliveC (rs : List Rz) : Bool := rs.length == 3 && sayN rs 0 == 1 && sayN rs 1 == 1 && sayN rs 2 == 2 && (match rs[1]?, rs[2]? with
  | some p, some q => p.d && p.nm.data == #[100, 101, 102, 105, 110, 101] && !q.d
  | _, _ => false)
theorem alive_rows : aliveC (rowsS (tksF [97, 10, 35, 100, 101, 102, 105, 110, 101, 32, 88, 10, 98, 10, 99, 10])) = true := by decide +kernel
theorem alive_facts : ∃ p q : Rz, (rowsT aliveT).length = 3 ∧ sayN (rowsT aliveT) 0 = 1 ∧ sayN (rowsT aliveT) 1 = 1 ∧ sayN (rowsT aliveT) 2 = 2 ∧ (rowsT aliveT)[1]? = some p ∧ (rowsT aliveT)[2]? = some q ∧ p.d = true ∧ p.nm = ⟨#[100, 101, 102, 105, 110, 101]⟩ ∧ q.d = false := by
  have h := alive_rows
  have e : rowsT aliveT = rowsS (tksF [97, 10, 35, 100, 101, 102, 105, 110, 101, 32, 88, 10, 98, 10, 99, 10]) := by unfold rowsT; rw [tks_F]; rfl
  rw [← e] at h
  generalize rowsT aliveT = rs at *
  unfold aliveC at h
  rw [Bool.and_eq_true, Bool.and_eq_true, Bool.and_eq_true, Bool.and_eq_true] at h
  obtain ⟨⟨⟨⟨h1, h2⟩, h3⟩, h4⟩, h5⟩ := h
  cases hp : rs[1]? with
  | none => rw [hp] at h5; cases h5
  | some p =>
    cases hq : rs[2]? with
    | none => rw [hp, hq] at h5; cases h5
    | some q =>
      rw [hp, hq] at h5
      simp only [Bool.and_eq_true, Bool.not_eq_true', beq_iff_eq] at h1 h2 h3 h4 h5
      refine ⟨p, q, h1, h2, h3, h4, rfl, rfl, h5.1.1, ?_, h5.2⟩
      obtain ⟨d, nm, ts⟩ := p
      cases nm
      simp only at h5 ⊢
      rw [h5.1.2]

set_option maxRecDepth 100000 in
set_option maxHeartbeats 2000000 in
theorem alive_any (w : World) (hL : LibVar w) : Calls Try.prog 24 #[] w fun e w' => e = .returned (.bool true) ∧ Below w.heap.size w w' := by
  obtain ⟨p, q, hlen, h0, h1, h2, hp, hq, hpd, hpn, hqd⟩ := alive_facts
  have CR := lrows_any aliveT w (by unfold maxLen; decide) hL
  obtain ⟨hf, -⟩ := rowsT_fit aliveT
  obtain ⟨rs, hrs⟩ : ∃ rs, rowsT aliveT = rs := ⟨_, rfl⟩
  rw [hrs] at hlen h0 h1 h2 hp hq CR hf
  rw [hlen] at CR
  have CS := fun (i : Nat) (hi : i ≤ 65536) (cap : Nat) (a : Option Addr) (w' : World) (h : RzIn w' a rs) => lsays_any rs 3 cap a i w' hlen (by decide) hi hf h
  have C0 := fun cap a w' h => CS 0 (by decide) cap a w' h
  have C1 := fun cap a w' h => CS 1 (by decide) cap a w' h
  have C2 := fun cap a w' h => CS 2 (by decide) cap a w' h
  rw [h0] at C0
  rw [h1] at C1
  rw [h2] at C2
  have HP := Lib.hid hp
  have HQ := Lib.hid hq
  have HL := Lib.hid hlen
  have HPN := Lib.hid hpn
  clear hrs hlen h0 h1 h2 hp hq hf CS hL hpn
  unfold aliveT at CR
  go_enter Try.func24, Try.ntmps24
  go_wp2_with fail
  refine CR.mono ?_
  rintro e w1 ⟨⟨a, cap, rfl, -, hi1⟩, hb1⟩
  have HI := Lib.hid hi1
  clear CR hi1
  go_wp2_with fail
  refine (C0 _ _ _ HI.out).mono ?_
  rintro e w2 ⟨rfl, hb2⟩
  go_wp2_with fail
  refine (C1 _ _ _ (HI.out.below hb2)).mono ?_
  rintro e w3 ⟨rfl, hb3⟩
  have hb23 := hb2.trans (hb3.mono hb2.size)
  go_wp2_with fail
  refine (C2 _ _ _ (HI.out.below hb23)).mono ?_
  rintro e w4 ⟨rfl, hb4⟩
  have hb24 := hb23.trans (hb4.mono hb23.size)
  have hB4 := hb1.trans (hb24.mono hb1.size)
  obtain ⟨b, o, rfl, _, hz⟩ := HI.out.below hb24 (by rw [HL.out]; decide)
  obtain ⟨c0, c1, -⟩ := hz 1 p HP.out
  obtain ⟨d0, -⟩ := hz 2 q HQ.out
  rw [hpd] at c0
  rw [HPN.out] at c1
  rw [hqd] at d0
  simp only [Nat.one_mul] at c0 c1
  rw [show 2 * 3 = 6 from rfl] at d0
  clear C0 C1 C2 hz hpd hqd
  go_wp2
  go_ret
  exact ⟨rfl, hB4⟩

end Go.Proofs.Ytpomcdolpmbhdaa
