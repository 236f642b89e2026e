/- macro.cutParameters, macro.mayBeBody: whatever comes in. -/
import Derived.Test.YtaodjipnffgihaaGreatMcG
namespace Go.Proofs.YtaodjipnffgihaaGreat
open Go.RowKit Go.Shelf

set_option maxRecDepth 100000 in
set_option maxHeartbeats 4000000 in
theorem cutPar_any (ts : List Tz) (n cap : Nat) (a : Option Addr) (w : World) (hn : ts.length = n) (hnc : n ≤ cap) (hn2 : n * 48 ≤ 140737488355328) (hx : ∀ t ∈ ts, t.tx.size ≤ 281474976710656) (B : Nat) (hBw0 : B ≤ w.heap.size) (hT : ToksAt w B a ts) :
    Calls Tryz.prog 82 #[.slice a n cap] w (CutRes B w (cutP ts)) := by
  cases ts with
  | nil =>
    obtain rfl : n = 0 := hn.symm
    clear hn hx hT
    go_enter Tryz.func82, Tryz.ntmps82
    go_wp2
    go_step3
    go_wp2
    go_step3
    go_wp2
    go_loopg [0, 2, 3, 5] 0 (fun gh lv v vv iv wx => lv = .slice a 0 cap ∧ v = .slice none 0 0 ∧ vv = .bool false ∧ iv = .bool false ∧ wx = w)
    case atStart => exact ⟨rfl, rfl, rfl, rfl, rfl⟩
    case round =>
      obtain ⟨rfl, rfl, rfl, rfl, rfl⟩ := hrel
      go_wp2
      try rw [Exit.noGoto_ret]
      (try simp only [Exit.inBlock, Exit.then]); refine bodyPost_ret (results_tmp4 rfl _ _ _) rfl ?_
      exact CutRes.no rfl rfl (Below.refl _ _)
  | cons t r =>
    cases hp : isP t [41] with
    | false =>
      have h := cutPar_loop (t :: r) n cap a w hn hnc hn2 hx B hBw0 hT (by rw [← hn]; simp) (fun x y e => by cases e; exact hp)
      have e : cutP (t :: r) = parP [] (t :: r) := by unfold cutP; simp only; rw [if_neg (by rw [hp]; decide)]
      rw [e]
      exact h
    | true =>
      have e : cutP (t :: r) = some ([], false, r) := by unfold cutP; simp only; rw [if_pos hp]
      rw [e]
      obtain ⟨b, o, rfl, hg1, hr⟩ := hT (by simp)
      obtain ⟨c0, c1, c2, c3, c4⟩ := hr 0 t rfl
      rw [Nat.zero_mul, Nat.add_zero] at c0 c1 c2 c3 c4
      have CC := spells_any t 5 [⟨#[41]⟩] 1 1 _ _ rfl (by decide) (strIn_one w 9 #[.string ⟨#[41]⟩] [⟨#[41]⟩] rfl)
      rw [← isP_eq t ⟨#[41]⟩ [41] (Lib.toList_data _), hp] at CC
      have hb1 := below1 w (.cells #[.string ⟨#[41]⟩] 9)
      have HT : Hid (ToksAt w B (some ⟨b, o + 1 * 5, none⟩) r) := Lib.hid (toksAt_drop hg1 hr 1)
      have HRL : Hid (r.length = n - 1) := Lib.hid (by simp only [List.length_cons] at hn; omega)
      have q1 : (0 : Int) < (n : Int) := by simp only [List.length_cons] at hn; omega
      have q2 : (1 : Int) ≤ (n : Int) := by simp only [List.length_cons] at hn; omega
      have q3 : (1 : Int) ≤ (cap : Int) := by simp only [List.length_cons] at hn; omega
      clear hx hT hr e hp
      by_cases hcap : cap = 1
      · obtain rfl : n = 1 := by simp only [List.length_cons] at hn; omega
        subst hcap
        clear hn
        go_enter Tryz.func82, Tryz.ntmps82
        go_wp2
        go_step3
        go_wp2_with fail
        refine CC.mono ?_
        rintro e w1 ⟨rfl, hbc⟩
        have hB1 := hb1.trans (hbc.mono hb1.size)
        clear c0 c1 c2 c3 c4 CC hb1 hbc
        go_wp2
        go_region
        all_goals (
          go_wp2
          try rw [Exit.noGoto_ret]
          (try simp only [Exit.inBlock, Exit.then]); refine bodyPost_ret (results_tmp4 rfl _ _ _) rfl ?_
          exact CutRes.yes rfl rfl HRL.out rfl (World.ownsRow_nil _ _ _ _) (by omega) (fun hp => absurd hp (by rw [HRL.out]; omega)) (below_drewN hB1 1))
      · have v5 : ¬ (cap : Int) = 1 := by omega
        clear hn
        go_enter Tryz.func82, Tryz.ntmps82
        go_wp2
        go_step3
        go_wp2_with fail
        refine CC.mono ?_
        rintro e w1 ⟨rfl, hbc⟩
        have hB1 := hb1.trans (hbc.mono hb1.size)
        clear c0 c1 c2 c3 c4 CC hb1 hbc
        go_wp2
        go_region
        all_goals (
          go_wp2
          try rw [Exit.noGoto_ret]
          (try simp only [Exit.inBlock, Exit.then]); refine bodyPost_ret (results_tmp4 rfl _ _ _) rfl ?_
          exact CutRes.yes rfl rfl HRL.out rfl (World.ownsRow_nil _ _ _ _) (by omega) HT.out (below_drewN hB1 1))

theorem mayBody_any (nm : ByteArray) (fn vr : Bool) (ps : List ByteArray) (pa : Option Addr) (pn pc : Nat) (v : Value) (ts : List Tz) (n cap : Nat) (a : Option Addr) (w : World) (hn : ts.length = n) (hnc : n ≤ cap) (hn2 : n * 48 ≤ 140737488355328) (hx : ∀ t ∈ ts, t.tx.size ≤ maxLen) (hT : TzIn w a ts) (hpn : ps.length = pn) (hpn2 : pn * 16 ≤ 140737488355328) (hpx : ∀ s ∈ ps, s.size ≤ maxLen) (hpT : StrIn w pa ps) :
    Calls Tryz.prog 56 #[.agg #[.string nm, .bool fn, .slice pa pn pc, .bool vr, v], .slice a n cap] w fun e w' => e = .returned (.bool (mayB fn vr ps ts)) ∧ Below w.heap.size w w' := by
  cases hE : endsB ts with
  | false =>
    have e : mayB fn vr ps ts = false := by unfold mayB; rw [hE]; rfl
    rw [e]
    exact mayBody_bad nm fn vr pa pn pc v ts n cap a w hn hn2 hT hE
  | true =>
    have e : mayB fn vr ps ts = mayT fn vr ps ts := by unfold mayB; rw [hE]; rfl
    rw [e]
    by_cases h0 : 0 < n
    · exact mayBody_pos nm fn vr ps pa pn pc v ts n cap a w hn hnc hn2 hx hT hpn hpn2 hpx hpT h0 hE
    · obtain rfl : n = 0 := by omega
      have e2 : ts = [] := List.length_eq_zero_iff.1 hn
      subst e2
      exact mayBody_nil nm fn vr ps pa pn pc v cap a w hpn hpn2 hpx hpT

end Go.Proofs.YtaodjipnffgihaaGreat
