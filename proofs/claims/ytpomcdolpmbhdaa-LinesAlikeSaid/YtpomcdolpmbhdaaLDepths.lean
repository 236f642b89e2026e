/- The law LinesDepths: its walk, out of what lines.Depths answers. -/
import Derived.Test.YtpomcdolpmbhdaaSaysR
namespace Go.Proofs.Ytpomcdolpmbhdaa
open Go.RowKit

/-- What lines.Depths must answer (to be proved of the program). -/
def DepthsOk : Prop := ∀ (n cap : Nat) (a : Option Addr) (w : World) (rs : List Rz), n * 48 ≤ 140737488355328 → rs.length = n → RzIn w a rs →
    Calls Try.prog 16 #[.slice a n cap] w fun e w' => (∃ v, e = .returned (.tuple #[v, .int .i64 (depE rs)]) ∧ (∀ o, depS rs = some o → w'.ownsRow w.heap.size 3 1 v o.length (intC o)) ∧ (depS rs = none → ∃ b c, v = .slice b 0 c)) ∧ Below w.heap.size w w'

theorem ints_own {W : World} {B : Nat} {v : Value} {o : List Nat} (h : W.ownsRow B 3 1 v o.length (intC o)) : ∃ a cap, v = .slice a o.length cap ∧ (∀ W', Below W.heap.size W W' → IntsIn W' a o) := by
  obtain ⟨a, cap, rfl⟩ := row_shape h
  refine ⟨a, cap, rfl, fun W' hb hp => ?_⟩
  obtain ⟨g, rfl, hg, hc⟩ := row_pos hp h
  refine ⟨g, 0, rfl, fun j x hx => ?_⟩
  rw [Nat.zero_add, show W'.cell? ⟨g, j, none⟩ = W.cell? ⟨g, j, none⟩ from hb.cell (p := ⟨g, j, none⟩) hg]
  refine hc j _ ?_
  unfold intC
  rw [List.getElem?_map, hx]; rfl
theorem twin_in {W : World} {B : Nat} {v : Value} {rs : List Rz} {vs : List Value} (h : OwnRz W B v rs vs) : ∃ a cap, v = .slice a rs.length cap ∧ RzIn W a rs := by
  obtain ⟨a, cap, e, h2⟩ := h.at
  refine ⟨a, cap, e, fun hp => ?_⟩
  obtain ⟨g, e2, _, hg, hr⟩ := h2 hp
  exact ⟨g, 0, e2, hg, hr⟩

set_option maxRecDepth 100000 in
set_option maxHeartbeats 4000000 in
theorem depths_law (HP : DepthsOk) (n cap : Nat) (a : Option Addr) (w : World) (rs : List Rz) (hn2 : n * 48 ≤ 140737488355328) (hn : rs.length = n) (hts : ∀ r ∈ rs, r.ts.length * 48 ≤ 140737488355328) (hT : RzIn w a rs) :
    Calls Try.prog 4 #[.slice a n cap] w fun e w' => e = .returned (.bool true) ∧ Below w.heap.size w w' := by
  have CT := twin_any n cap a w hn2 rs hn hts (by rw [← hn]; exact hT)
  have CP := fun (a' : Option Addr) (cap' : Nat) (w' : World) (h : RzIn w' a' rs) => HP n cap' a' w' rs hn2 hn h
  have CR := fun (w' : World) (h : RzIn w' a rs) => rDepths_any n cap a w' hn2 rs hn h
  have CS := fun (a' : Option Addr) (cap' : Nat) (w' : World) (h1 : RzIn w' a' rs) (h2 : RzIn w' a rs) => rsame_any rs n cap' cap a' a w' hn hn2 hts h1 h2
  have HT := Lib.hid hT
  have HN := Lib.hid hn
  clear hT hts hn HP
  go_enter Try.func4, Try.ntmps4
  go_wp2_with fail
  refine CT.mono ?_
  rintro e w1 ⟨⟨v1, vs1, rfl, ho1⟩, hb1⟩
  obtain ⟨a1, cap1, rfl, hi1⟩ := twin_in ho1
  rw [HN.out]
  have HI1 := Lib.hid hi1
  clear ho1 CT hi1
  go_wp2_with fail
  refine (CP _ _ _ HI1.out).mono ?_
  rintro e w2 ⟨⟨v2, rfl, h2a, h2b⟩, hb2⟩
  have hB2 := hb1.trans (hb2.mono hb1.size)
  cases hd : depS rs with
  | none =>
    have hE := depE_none hd
    obtain ⟨b2, c2, rfl⟩ := h2b hd
    rw [hd, hE] at CR
    rw [hE]
    clear h2a h2b CP hd hE
    go_wp2_with fail
    refine (CR _ (HT.out.below hB2)).mono ?_
    rintro e w3 ⟨⟨v3, rfl, -, h3⟩, hb3⟩
    have hv3 := h3 (by first | trivial | rfl)
    subst hv3
    have hB3 := hB2.trans (hb3.mono hB2.size)
    clear CR h3
    go_wp2_with fail
    refine (ints_any [] 0 c2 0 b2 none w3 rfl (Nat.zero_le _) (fun h => absurd h (Nat.lt_irrefl 0)) (fun h => absurd h (Nat.lt_irrefl 0))).mono ?_
    rintro e w4 ⟨rfl, q, rfl⟩
    have hb3q : Below w1.heap.size w1 (w3.drewN q) := below_drewN (hb2.trans (hb3.mono hb2.size)) q
    have hB3q : Below w.heap.size w (w3.drewN q) := below_drewN hB3 q
    go_wp2_with fail
    refine (CS _ _ _ (HI1.out.below hb3q) (HT.out.below hB3q)).mono ?_
    rintro e w5 ⟨rfl, q2, rfl⟩
    go_wp2
    go_ret
    exact ⟨rfl, below_drewN hB3 _⟩
  | some o =>
    have hE := depE_some hd
    have h2 := h2a o hd
    obtain ⟨b2, c2, rfl, hI2⟩ := ints_own h2
    rw [hd, hE] at CR
    rw [hE]
    have hol : o.length ≤ maxLen := by
      rcases h2.2 with ⟨_, h0⟩ | ⟨_, cp, _, _, _, _, h3, h4, _⟩
      · rw [h0]; exact Nat.zero_le _
      · omega
    clear h2a h2b CP hd hE h2
    go_wp2_with fail
    refine (CR _ (HT.out.below hB2)).mono ?_
    rintro e w3 ⟨⟨v3, rfl, h3, -⟩, hb3⟩
    obtain ⟨b3, c3, rfl, hI3⟩ := ints_own (h3 o rfl)
    have hB3 := hB2.trans (hb3.mono hB2.size)
    have HI2 := Lib.hid (hI2 w3 hb3)
    have HI3 := Lib.hid (hI3 w3 (Below.refl _ _))
    clear CR h3 hI2 hI3
    go_wp2_with fail
    refine (ints_any o o.length c2 c3 b2 b3 w3 rfl hol HI2.out HI3.out).mono ?_
    rintro e w4 ⟨rfl, q, rfl⟩
    have hb3q : Below w1.heap.size w1 (w3.drewN q) := below_drewN (hb2.trans (hb3.mono hb2.size)) q
    have hB3q : Below w.heap.size w (w3.drewN q) := below_drewN hB3 q
    go_wp2_with fail
    refine (CS _ _ _ (HI1.out.below hb3q) (HT.out.below hB3q)).mono ?_
    rintro e w5 ⟨rfl, q2, rfl⟩
    go_wp2
    go_ret
    exact ⟨rfl, below_drewN hB3 _⟩

end Go.Proofs.Ytpomcdolpmbhdaa
