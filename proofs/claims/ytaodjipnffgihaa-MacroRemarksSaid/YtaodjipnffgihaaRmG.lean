/- The walk of the law MacroRemarks. -/
import Derived.Test.YtaodjipnffgihaaMyG
import Derived.Test.YtaodjipnffgihaaMnB
import Derived.Lib.AppendStr
import Derived.Lib.BufferRead
import Derived.OneCell
import Derived.WalkSmall
namespace Go.Proofs.Ytaodjipnffgihaa
open Go.RowKit Go.Shelf

def bR (l : List UInt8) : List Value := l.map fun b => Value.int .u8 b.toNat
theorem bR_app (a b : List UInt8) : bR (a ++ b) = bR a ++ bR b := List.map_append ..
/-- string(b) of a row of bytes that the call owns. -/
theorem convR_row {w : World} {base : Nat} {a : Option Addr} {cap : Nat} {l : List UInt8} {n : Nat} (hn : n = l.length) (h : w.ownsRow base 5 1 (.slice a n cap) n (bR l)) :
    (convert 45 9 (.slice a n cap)).run Try.prog w = .ok (.string ⟨l.toArray⟩) w := by
  subst hn
  rcases h.2 with ⟨hv, h0⟩ | ⟨g, cap', cur, hv, _, hg, _, _, _, ht⟩
  · have : l = [] := List.length_eq_zero_iff.1 h0
    subst this
    cases hv
    exact Lib.run_convert_nil_bytes w _ _ _ 0 Try.underlying45 Try.underlying5 Try.underlying9
  · cases hv
    refine run_convert_bytes_back w _ _ _ _ _ l Try.underlying45 Try.underlying5 Try.underlying9 ?_
    exact Lib.bytes_of_row hg (by rw [Nat.mul_one] at ht; exact ht)
theorem infoR8 : (Try.prog.info? 5).map (fun i => (i.zero, i.size, i.bytes)) = some (some (.int .u8 0), 1, 1) := by kernel_rfl
theorem cellR_lt {W : World} {a : Addr} {u : Value} (h : W.cell? a = some u) : a.block < W.heap.size := by
  unfold World.cell? at h
  split at h
  · rename_i he
    exact (Array.getElem?_eq_some_iff.1 he).1
  · cases h

/-- What stands for white space at a token. -/
def gW (bs : List UInt8) (i : Nat) : List UInt8 := sps.getD ((bs.getD (i % bs.length) 0).toNat % 6) [32]
theorem gW_mem (bs : List UInt8) (i : Nat) : gW bs i ∈ sps := by
  unfold gW
  have h : (bs.getD (i % bs.length) 0).toNat % 6 < sps.length := Nat.mod_lt _ (by decide)
  rw [List.getD_eq_getElem?_getD, List.getElem?_eq_getElem h, Option.getD_some]
  exact List.getElem_mem h
theorem six_cell (w : World) (r : Nat) (h : r < 6) : (w.alloc (.cells #[.string ⟨#[32]⟩, .string ⟨#[9]⟩, .string ⟨#[32, 47, 42, 32, 120, 32, 42, 47]⟩, .string ⟨#[32, 32]⟩, .string ⟨#[32, 47, 42, 42, 47, 32, 47, 42, 32, 10, 32, 42, 47]⟩, .string ⟨#[11, 12]⟩] 9)).cell? ⟨w.heap.size, r, none⟩ = some (.string ⟨(sps.getD r [32]).toArray⟩) := by
  match r, h with
  | 0, _ => simp [sps]
  | 1, _ => simp [sps]
  | 2, _ => simp [sps]
  | 3, _ => simp [sps]
  | 4, _ => simp [sps]
  | 5, _ => simp [sps]
theorem lineT (s : ByteArray) : ((⟨#[35, 100, 101, 102, 105, 110, 101, 32]⟩ : ByteArray) ++ s ++ ⟨#[10]⟩).data.toList = hd7 ++ 32 :: (s.data.toList ++ [10]) := by
  rw [catTx, catTx]; rfl
theorem lineZ (s : ByteArray) (h : s.size ≤ 140737488355328) : ((⟨#[35, 100, 101, 102, 105, 110, 101, 32]⟩ : ByteArray) ++ s ++ ⟨#[10]⟩).size ≤ maxLen := by
  rw [ByteArray.size_append, ByteArray.size_append]
  have e1 : (⟨#[35, 100, 101, 102, 105, 110, 101, 32]⟩ : ByteArray).size = 8 := rfl
  have e2 : (⟨#[10]⟩ : ByteArray).size = 1 := rfl
  unfold maxLen; omega

set_option maxRecDepth 100000 in
set_option maxHeartbeats 8000000 in
theorem rem_bad (s : ByteArray) (a : Option Addr) (n cap : Nat) (w : World) (hs : s.size ≤ 140737488355328) (hL : LibVar w) (h : scanErr ((⟨#[35, 100, 101, 102, 105, 110, 101, 32]⟩ : ByteArray) ++ s ++ ⟨#[10]⟩) ≠ 0) :
    Calls Try.prog 6 #[.string s, .slice a n cap] w fun e w' => e = .returned (.bool true) ∧ Below w.heap.size w w' := by
  have HA := alive5_any w hL
  have HC := fun w1 (hb : Below w.heap.size w w1) => scan_tz ((⟨#[35, 100, 101, 102, 105, 110, 101, 32]⟩ : ByteArray) ++ s ++ ⟨#[10]⟩) w1 (lineZ s hs) (hL.low hb)
  obtain ⟨c, hc⟩ : ∃ c, scanErr ((⟨#[35, 100, 101, 102, 105, 110, 101, 32]⟩ : ByteArray) ++ s ++ ⟨#[10]⟩) = c := ⟨_, rfl⟩
  rw [hc] at HC h
  have hb0 : (c != 0) = true := by simpa using h
  clear hc
  go_enter Try.func6, Try.ntmps6
  go_wp2_with fail
  refine HA.mono ?_
  rintro e w1 ⟨rfl, hb1⟩
  go_wp2_with fail
  refine (HC _ hb1).mono ?_
  rintro e w2 ⟨⟨a2, cap2, rfl, -, -⟩, hb2⟩
  have hBB := hb1.trans (hb2.mono hb1.size)
  go_wp2
  go_ret
  exact ⟨rfl, hBB⟩

set_option maxRecDepth 100000 in
set_option maxHeartbeats 8000000 in
theorem rem_long (s : ByteArray) (a : Option Addr) (n cap : Nat) (w : World) (hs : s.size ≤ 140737488355328) (hL : LibVar w) (h : scanErr ((⟨#[35, 100, 101, 102, 105, 110, 101, 32]⟩ : ByteArray) ++ s ++ ⟨#[10]⟩) = 0) (hz : 5000 < s.size) :
    Calls Try.prog 6 #[.string s, .slice a n cap] w fun e w' => e = .returned (.bool true) ∧ Below w.heap.size w w' := by
  have HA := alive5_any w hL
  have HC := fun w1 (hb : Below w.heap.size w w1) => scan_tz ((⟨#[35, 100, 101, 102, 105, 110, 101, 32]⟩ : ByteArray) ++ s ++ ⟨#[10]⟩) w1 (lineZ s hs) (hL.low hb)
  rw [h] at HC
  have hz1 : (5000 : Int) < (s.size : Int) := by omega
  clear h hz
  go_enter Try.func6, Try.ntmps6
  go_wp2_with fail
  refine HA.mono ?_
  rintro e w1 ⟨rfl, hb1⟩
  go_wp2_with fail
  refine (HC _ hb1).mono ?_
  rintro e w2 ⟨⟨a2, cap2, rfl, -, -⟩, hb2⟩
  have hBB := hb1.trans (hb2.mono hb1.size)
  go_wp2
  go_ret
  exact ⟨rfl, hBB⟩

set_option maxRecDepth 100000 in
set_option maxHeartbeats 8000000 in
theorem rem_none (s : ByteArray) (a : Option Addr) (n cap : Nat) (w : World) (hs : s.size ≤ 140737488355328) (hL : LibVar w) (h : scanErr ((⟨#[35, 100, 101, 102, 105, 110, 101, 32]⟩ : ByteArray) ++ s ++ ⟨#[10]⟩) = 0) (hz : s.size ≤ 5000) (hn : n = 0) :
    Calls Try.prog 6 #[.string s, .slice a n cap] w fun e w' => e = .returned (.bool true) ∧ Below w.heap.size w w' := by
  have HA := alive5_any w hL
  have HC := fun w1 (hb : Below w.heap.size w w1) => scan_tz ((⟨#[35, 100, 101, 102, 105, 110, 101, 32]⟩ : ByteArray) ++ s ++ ⟨#[10]⟩) w1 (lineZ s hs) (hL.low hb)
  rw [h] at HC
  subst hn
  have hz1 : ¬ (5000 : Int) < (s.size : Int) := by omega
  clear h hz
  go_enter Try.func6, Try.ntmps6
  go_wp2_with fail
  refine HA.mono ?_
  rintro e w1 ⟨rfl, hb1⟩
  go_wp2_with fail
  refine (HC _ hb1).mono ?_
  rintro e w2 ⟨⟨a2, cap2, rfl, -, -⟩, hb2⟩
  have hBB := hb1.trans (hb2.mono hb1.size)
  go_wp2
  go_ret
  exact ⟨rfl, hBB⟩

set_option maxRecDepth 100000 in
set_option maxHeartbeats 16000000 in
theorem rem_ok (s : ByteArray) (bs : List UInt8) (x : Addr) (n cap : Nat) (w : World) (hs : s.size ≤ 140737488355328) (hL : LibVar w) (h : scanErr ((⟨#[35, 100, 101, 102, 105, 110, 101, 32]⟩ : ByteArray) ++ s ++ ⟨#[10]⟩) = 0) (hz : s.size ≤ 5000) (hn : bs.length = n) (hn0 : 0 < n) (hnc : n ≤ cap) (hcm : cap ≤ maxLen) (hT : ∀ i c, bs[i]? = some c → w.cell? (x.add i) = some (.int .u8 c.toNat)) :
    Calls Try.prog 6 #[.string s, .slice (some x) n cap] w fun e w' => e = .returned (.bool true) ∧ Below w.heap.size w w' := by
  obtain ⟨i0, hi, hz0, hz1, hz2⟩ := info_parts infoR8
  unfold maxLen at hcm
  have HA := alive5_any w hL
  have HC := fun w1 (hb : Below w.heap.size w w1) => scan_tz ((⟨#[35, 100, 101, 102, 105, 110, 101, 32]⟩ : ByteArray) ++ s ++ ⟨#[10]⟩) w1 (lineZ s hs) (hL.low hb)
  rw [h] at HC
  have HLD := fun w1 (hb : Below w.heap.size w w1) => ldefined_any ((⟨#[35, 100, 101, 102, 105, 110, 101, 32]⟩ : ByteArray) ++ s ++ ⟨#[10]⟩) w1 (lineZ s hs) (hL.low hb)
  have hP := fun hno => remarks_pure (g := gW bs) (gW_mem bs) (lineT s) h hz hno
  have hfit := tks_fit ((⟨#[35, 100, 101, 102, 105, 110, 101, 32]⟩ : ByteArray) ++ s ++ ⟨#[10]⟩)
  obtain ⟨us, hus⟩ : ∃ us, tksOf ((⟨#[35, 100, 101, 102, 105, 110, 101, 32]⟩ : ByteArray) ++ s ++ ⟨#[10]⟩) = us := ⟨_, rfl⟩
  rw [hus] at HC hP hfit
  obtain ⟨D, hD⟩ : ∃ D, definedS ((⟨#[35, 100, 101, 102, 105, 110, 101, 32]⟩ : ByteArray) ++ s ++ ⟨#[10]⟩) = D := ⟨_, rfl⟩
  have HDF := Lib.hid (fun d (e : D = some d) => definedS_fit (hD.trans e))
  rw [hD] at HLD hP
  obtain ⟨T, hT'⟩ : ∃ T, newS (gW bs) ((⟨#[35, 100, 101, 102, 105, 110, 101, 32]⟩ : ByteArray) ++ s ++ ⟨#[10]⟩) = T := ⟨_, rfl⟩
  obtain ⟨X, hX⟩ : ∃ X, newZ (gW bs) 0 us = X := ⟨_, rfl⟩
  have hTX : T = ⟨(spellOut X).1.toArray⟩ := by rw [← hT', newS, hus, hX]
  rw [hT', hX] at hP
  obtain ⟨m, hm⟩ : ∃ m, us.length = m := ⟨_, rfl⟩
  rw [hm] at HC hfit
  have HP := Lib.hid hP
  have HX := Lib.hid hX
  have HTX := Lib.hid hTX
  have HM := Lib.hid hm
  have HFU := Lib.hid hfit.2
  have HTB := Lib.hid hT
  have HBN := Lib.hid hn
  have hmz := hfit.1
  have hz3 : ¬ (5000 : Int) < (s.size : Int) := by omega
  have hn1 : ((n : Int) == 0) = false := by simp; omega
  clear h hz hP hus hD hT' hX hTX hm hfit hT hn
  go_enter Try.func6, Try.ntmps6
  go_wp2_with fail
  refine HA.mono ?_
  rintro e w1 ⟨rfl, hb1⟩
  go_wp2_with fail
  refine (HC _ hb1).mono ?_
  rintro e w2 ⟨⟨a2, cap2, rfl, hc2, hi2⟩, hb2⟩
  have hBB := hb1.trans (hb2.mono hb1.size)
  have HI := Lib.hid hi2
  clear HA HC hi2
  go_wp2
  go_loopg [8, 9] m (fun g v i wx => ∃ (k : Nat) (pre : List UInt8), k ≤ m ∧ i = .int .i64 k ∧ g = m - k ∧ pre.length ≤ k * 70000 ∧ Hid (pre ++ newZ (gW bs) k (us.drop k) = X) ∧ Hid (∀ (j : Nat) (u : Tz), j < k → us[j]? = some u → u.k = 9 → j + 1 = us.length) ∧ wx.ownsRow w2.heap.size 5 1 v pre.length (bR pre) ∧ Below w2.heap.size w2 wx)
  case atStart => exact ⟨0, [], Nat.zero_le _, rfl, rfl, by simp, HX, Lib.hid (fun j u h => absurd h (Nat.not_lt_zero _)), World.ownsRow_nil _ _ _ _, Below.refl _ _⟩
  case round =>
    obtain ⟨k, pre, hk, rfl, rfl, hpl, HP1, HP2, hown, hbx⟩ := hrel
    by_cases hlt : k < m
    · obtain ⟨u, hu⟩ : ∃ u, us[k]? = some u := ⟨_, List.getElem?_eq_getElem (by rw [HM.out]; exact hlt)⟩
      obtain ⟨g, og, rfl, hg, hrz⟩ := HI.out (by rw [HM.out]; omega)
      obtain ⟨p0, p1, -, -, p4⟩ := hrz k u hu
      have HQ : Hid (∀ W, Below w2.heap.size w2 W → W.cell? ⟨g, og + k * 5, none⟩ = some (.int .i64 u.k) ∧ W.cell? ⟨g, og + k * 5 + 1, none⟩ = some (.string u.tx) ∧ W.cell? ⟨g, og + k * 5 + 4, none⟩ = some (.bool u.sp)) := Lib.hid (fun W hW => ⟨(hW.cell (p := ⟨g, og + k * 5, none⟩) hg).trans p0, (hW.cell (p := ⟨g, og + k * 5 + 1, none⟩) hg).trans p1, (hW.cell (p := ⟨g, og + k * 5 + 4, none⟩) hg).trans p4⟩)
      have hdr : us.drop k = u :: us.drop (k + 1) := by
        have hl : k < us.length := by rw [HM.out]; exact hlt
        rw [List.drop_eq_getElem_cons hl]
        rw [List.getElem?_eq_getElem hl] at hu
        rw [Option.some.inj hu]
      have hp := HP1.out
      rw [hdr, newZ] at hp
      have hfu := HFU.out u (List.mem_of_getElem? hu)
      have hgl := sps_len _ (gW_mem bs k)
      have HU := Lib.hid hu
      have HPC := Lib.hid hp
      have hbs := hbx.size
      obtain ⟨q0, q1, q4⟩ := HQ.out _ hbx
      clear hrz p0 p1 p4 hdr hp HP1 hu
      have j1 : (k : Int) < (m : Int) := by omega
      have j0 : (0 : Int) ≤ (k : Int) := by omega
      have j2 : ¬ (m : Int) ≤ (k : Int) := by omega
      by_cases hE : u.k = 9 ∧ k + 1 < m
      · have e9 : (u.k == 9) = true := by simp [hE.1]
        have j3 : (k : Int) + 1 < (m : Int) := by omega
        go_wp2
        go_ret
        exact ⟨rfl, hBB.trans (hbx.mono hBB.size)⟩
      · have HN2 : Hid (∀ (j : Nat) (v : Tz), j < k + 1 → us[j]? = some v → v.k = 9 → j + 1 = us.length) := Lib.hid (fun j v hj hv h9 => by
          by_cases hjk : j < k
          · exact HP2.out j v hjk hv h9
          · obtain rfl : j = k := by omega
            rw [HU.out] at hv
            cases hv
            rw [HM.out]
            have := mt (fun h => And.intro h9 h) hE
            omega)
        by_cases h9 : u.k = 9
        · cases hsp : u.sp with
          | true =>
            have e9 : (u.k == 9) = true := by simp [h9]
            have j3 : ¬ (k : Int) + 1 < (m : Int) := by have := mt (fun h => And.intro h9 h) hE; omega
            have e8 : (u.k == 8) = false := by simp; omega
            have e8n : (u.k != 8) = true := by simp; omega
            obtain ⟨j, hj⟩ : ∃ j, k % n = j := ⟨_, rfl⟩
            have hjn : j < n := by rw [← hj]; exact Nat.mod_lt _ hn0
            have t1 : (k : Int).tmod (n : Int) = (j : Int) := by rw [Int.tmod_eq_emod_of_nonneg (by omega), ← hj]; rfl
            obtain ⟨c, hc⟩ : ∃ c, bs[j]? = some c := ⟨_, List.getElem?_eq_getElem (by rw [HBN.out]; exact hjn)⟩
            have c1 := HTB.out j c hc
            obtain ⟨r, hr⟩ : ∃ r, c.toNat % 6 = r := ⟨_, rfl⟩
            have hr6 : r < 6 := by rw [← hr]; exact Nat.mod_lt _ (by decide)
            have t2 : ((c.toNat : Nat) : Int).tmod 6 = (r : Int) := by rw [Int.tmod_eq_emod_of_nonneg (by omega), ← hr]; rfl
            have hG : gW bs k = sps.getD r [32] := by
              have e : bs.getD j 0 = c := by rw [List.getD_eq_getElem?_getD, hc]; rfl
              unfold gW; rw [HBN.out, hj, e, hr]
            have hbw := hBB.trans (hbx.mono hBB.size)
            have d1 := ((hbw.alloc hbw.size (.cells #[.string ⟨#[32]⟩, .string ⟨#[9]⟩, .string ⟨#[32, 47, 42, 32, 120, 32, 42, 47]⟩, .string ⟨#[32, 32]⟩, .string ⟨#[32, 47, 42, 42, 47, 32, 47, 42, 32, 10, 32, 42, 47]⟩, .string ⟨#[11, 12]⟩] 9)).cell (p := x.add j) (cellR_lt c1)).trans c1
            have d0 := six_cell wr r hr6
            rw [← hG] at d0
            have hcn := c.toNat_lt
            obtain ⟨G, hGG⟩ : ∃ G, gW bs k = G := ⟨_, rfl⟩
            rw [hGG] at d0 hgl
            have hGs : (⟨G.toArray⟩ : ByteArray).size = G.length := rfl
            have hGl : G.length ≤ 22 := by omega
            obtain ⟨y0, y1, y4⟩ := HQ.out _ (hbx.alloc hbs (.cells #[.string ⟨#[32]⟩, .string ⟨#[9]⟩, .string ⟨#[32, 47, 42, 32, 120, 32, 42, 47]⟩, .string ⟨#[32, 32]⟩, .string ⟨#[32, 47, 42, 42, 47, 32, 47, 42, 32, 10, 32, 42, 47]⟩, .string ⟨#[11, 12]⟩] 9))
            have i0j : (0 : Int) ≤ (j : Int) := by omega
            have i1j : (j : Int) < (n : Int) := by omega
            have i2j : ¬ (n : Int) ≤ (j : Int) := by omega
            have i0r : (0 : Int) ≤ (r : Int) := by omega
            have i1r : (r : Int) < 6 := by omega
            have i2r : ¬ (6 : Int) ≤ (r : Int) := by omega
            have i3n : ¬ (n : Int) = 0 := by omega
            have hbsA : w2.heap.size ≤ (wr.alloc (.cells #[.string ⟨#[32]⟩, .string ⟨#[9]⟩, .string ⟨#[32, 47, 42, 32, 120, 32, 42, 47]⟩, .string ⟨#[32, 32]⟩, .string ⟨#[32, 47, 42, 42, 47, 32, 47, 42, 32, 10, 32, 42, 47]⟩, .string ⟨#[11, 12]⟩] 9)).heap.size := by rw [World.size_alloc]; omega
            have HN : Hid ((pre ++ G ++ u.tx.data.toList) ++ newZ (gW bs) (k + 1) (us.drop (k + 1)) = X) := Lib.hid (by
              have := HPC.out
              rw [hGG, if_pos (.inr hsp), if_neg (by omega), ← List.append_assoc, ← List.append_assoc] at this
              exact this)
            rw [hsp] at q4
            clear HPC c1 hc hr hj hG hGG
            go_wp2_with (at_builtin; first
              | (refine Lib.wpList_append_own_string _ rfl _ _ 45 9 rfl w2.heap.size 5 i0 Try.underlying45 Try.underlying9 hi hz0 hz1 hz2 _ _ _ rfl (hown.alloc _) ⟨G.toArray⟩ rfl (by unfold maxLen; omega) (by omega) hbsA ?_; intro v3 w3 hown3 hgrow3 hn3; clear hn3; have hl3 := hown.lt; have hB3 := (hbx.alloc hbs (.cells #[.string ⟨#[32]⟩, .string ⟨#[9]⟩, .string ⟨#[32, 47, 42, 32, 120, 32, 42, 47]⟩, .string ⟨#[32, 32]⟩, .string ⟨#[32, 47, 42, 42, 47, 32, 47, 42, 32, 10, 32, 42, 47]⟩, .string ⟨#[11, 12]⟩] 9)).grown hgrow3 hbsA (fun j e => (hl3 j e).1); obtain ⟨x0, x1, x4⟩ := HQ.out _ hB3; have hbs3 := hB3.size; clear y0 y1 y4)
              | (refine Lib.wpList_append_own_string _ rfl _ _ 45 9 rfl w2.heap.size 5 i0 Try.underlying45 Try.underlying9 hi hz0 hz1 hz2 _ _ _ rfl (hown3) u.tx rfl (by unfold maxLen; omega) (by omega) hbs3 ?_; intro v4 w4 hown4 hgrow4 hn4; clear hn4; have hl4 := hown3.lt; have hB4 := hB3.grown hgrow4 hbs3 (fun j e => (hl4 j e).1)))
            go_roundg (m - (k + 1))
            case rel =>
              refine ⟨k + 1, pre ++ G ++ u.tx.data.toList, by omega, by go_num, rfl, ?_, HN, HN2, ?_, hB4⟩
              · rw [List.length_append, List.length_append, size_list]; omega
              · rw [List.length_append, List.length_append, bR_app, bR_app, size_list]; exact hown4
            case measure => omega
          | false =>
            have e9 : (u.k == 9) = true := by simp [h9]
            have j3 : ¬ (k : Int) + 1 < (m : Int) := by have := mt (fun h => And.intro h9 h) hE; omega
            have e8 : (u.k == 8) = false := by simp; omega
            have e8n : (u.k != 8) = true := by simp; omega
            have HN : Hid ((pre ++ u.tx.data.toList) ++ newZ (gW bs) (k + 1) (us.drop (k + 1)) = X) := Lib.hid (by
              have := HPC.out
              rw [if_neg (by rw [hsp]; simp; omega), if_neg (by omega), List.nil_append, ← List.append_assoc] at this
              exact this)
            rw [hsp] at q4
            clear HPC
            go_wp2_with (at_builtin; refine Lib.wpList_append_own_string _ rfl _ _ 45 9 rfl w2.heap.size 5 i0 Try.underlying45 Try.underlying9 hi hz0 hz1 hz2 _ _ _ rfl (hown) u.tx rfl (by unfold maxLen; omega) (by omega) hbs ?_; intro v4 w4 hown4 hgrow4 hn4; clear hn4; have hl4 := hown.lt; have hB4 := hbx.grown hgrow4 hbs (fun j e => (hl4 j e).1))
            go_roundg (m - (k + 1))
            case rel =>
              refine ⟨k + 1, pre ++ u.tx.data.toList, by omega, by go_num, rfl, ?_, HN, HN2, ?_, hB4⟩
              · rw [List.length_append, size_list]; omega
              · rw [List.length_append, bR_app, size_list]; exact hown4
            case measure => omega
        · by_cases h8 : u.k = 8
          · have e9 : (u.k == 9) = false := by simp [h9]
            have e8 : (u.k == 8) = true := by simp [h8]
            have e8n : (u.k != 8) = false := by simp [h8]
            obtain ⟨j, hj⟩ : ∃ j, k % n = j := ⟨_, rfl⟩
            have hjn : j < n := by rw [← hj]; exact Nat.mod_lt _ hn0
            have t1 : (k : Int).tmod (n : Int) = (j : Int) := by rw [Int.tmod_eq_emod_of_nonneg (by omega), ← hj]; rfl
            obtain ⟨c, hc⟩ : ∃ c, bs[j]? = some c := ⟨_, List.getElem?_eq_getElem (by rw [HBN.out]; exact hjn)⟩
            have c1 := HTB.out j c hc
            obtain ⟨r, hr⟩ : ∃ r, c.toNat % 6 = r := ⟨_, rfl⟩
            have hr6 : r < 6 := by rw [← hr]; exact Nat.mod_lt _ (by decide)
            have t2 : ((c.toNat : Nat) : Int).tmod 6 = (r : Int) := by rw [Int.tmod_eq_emod_of_nonneg (by omega), ← hr]; rfl
            have hG : gW bs k = sps.getD r [32] := by
              have e : bs.getD j 0 = c := by rw [List.getD_eq_getElem?_getD, hc]; rfl
              unfold gW; rw [HBN.out, hj, e, hr]
            have hbw := hBB.trans (hbx.mono hBB.size)
            have d1 := ((hbw.alloc hbw.size (.cells #[.string ⟨#[32]⟩, .string ⟨#[9]⟩, .string ⟨#[32, 47, 42, 32, 120, 32, 42, 47]⟩, .string ⟨#[32, 32]⟩, .string ⟨#[32, 47, 42, 42, 47, 32, 47, 42, 32, 10, 32, 42, 47]⟩, .string ⟨#[11, 12]⟩] 9)).cell (p := x.add j) (cellR_lt c1)).trans c1
            have d0 := six_cell wr r hr6
            rw [← hG] at d0
            have hcn := c.toNat_lt
            obtain ⟨G, hGG⟩ : ∃ G, gW bs k = G := ⟨_, rfl⟩
            rw [hGG] at d0 hgl
            have hGs : (⟨G.toArray⟩ : ByteArray).size = G.length := rfl
            have hGl : G.length ≤ 22 := by omega
            obtain ⟨y0, y1, y4⟩ := HQ.out _ (hbx.alloc hbs (.cells #[.string ⟨#[32]⟩, .string ⟨#[9]⟩, .string ⟨#[32, 47, 42, 32, 120, 32, 42, 47]⟩, .string ⟨#[32, 32]⟩, .string ⟨#[32, 47, 42, 42, 47, 32, 47, 42, 32, 10, 32, 42, 47]⟩, .string ⟨#[11, 12]⟩] 9))
            have i0j : (0 : Int) ≤ (j : Int) := by omega
            have i1j : (j : Int) < (n : Int) := by omega
            have i2j : ¬ (n : Int) ≤ (j : Int) := by omega
            have i0r : (0 : Int) ≤ (r : Int) := by omega
            have i1r : (r : Int) < 6 := by omega
            have i2r : ¬ (6 : Int) ≤ (r : Int) := by omega
            have i3n : ¬ (n : Int) = 0 := by omega
            have hbsA : w2.heap.size ≤ (wr.alloc (.cells #[.string ⟨#[32]⟩, .string ⟨#[9]⟩, .string ⟨#[32, 47, 42, 32, 120, 32, 42, 47]⟩, .string ⟨#[32, 32]⟩, .string ⟨#[32, 47, 42, 42, 47, 32, 47, 42, 32, 10, 32, 42, 47]⟩, .string ⟨#[11, 12]⟩] 9)).heap.size := by rw [World.size_alloc]; omega
            have HN : Hid ((pre ++ G) ++ newZ (gW bs) (k + 1) (us.drop (k + 1)) = X) := Lib.hid (by
              have := HPC.out
              rw [hGG, if_pos (.inl h8), if_pos h8, List.nil_append, ← List.append_assoc] at this
              exact this)
            clear HPC q4 c1 hc hr hj hG hGG
            go_wp2_with (at_builtin; refine Lib.wpList_append_own_string _ rfl _ _ 45 9 rfl w2.heap.size 5 i0 Try.underlying45 Try.underlying9 hi hz0 hz1 hz2 _ _ _ rfl (hown.alloc _) ⟨G.toArray⟩ rfl (by unfold maxLen; omega) (by omega) hbsA ?_; intro v3 w3 hown3 hgrow3 hn3; clear hn3; have hl3 := hown.lt; have hB3 := (hbx.alloc hbs (.cells #[.string ⟨#[32]⟩, .string ⟨#[9]⟩, .string ⟨#[32, 47, 42, 32, 120, 32, 42, 47]⟩, .string ⟨#[32, 32]⟩, .string ⟨#[32, 47, 42, 42, 47, 32, 47, 42, 32, 10, 32, 42, 47]⟩, .string ⟨#[11, 12]⟩] 9)).grown hgrow3 hbsA (fun j e => (hl3 j e).1); obtain ⟨x0, x1, x4⟩ := HQ.out _ hB3; have hbs3 := hB3.size; clear y0 y1 y4)
            go_roundg (m - (k + 1))
            case rel =>
              refine ⟨k + 1, pre ++ G, by omega, by go_num, rfl, ?_, HN, HN2, ?_, hB3⟩
              · rw [List.length_append]; omega
              · rw [List.length_append, bR_app]; exact hown3
            case measure => omega
          · cases hsp : u.sp with
            | true =>
              have e9 : (u.k == 9) = false := by simp [h9]
              have e8 : (u.k == 8) = false := by simp; omega
              have e8n : (u.k != 8) = true := by simp; omega
              obtain ⟨j, hj⟩ : ∃ j, k % n = j := ⟨_, rfl⟩
              have hjn : j < n := by rw [← hj]; exact Nat.mod_lt _ hn0
              have t1 : (k : Int).tmod (n : Int) = (j : Int) := by rw [Int.tmod_eq_emod_of_nonneg (by omega), ← hj]; rfl
              obtain ⟨c, hc⟩ : ∃ c, bs[j]? = some c := ⟨_, List.getElem?_eq_getElem (by rw [HBN.out]; exact hjn)⟩
              have c1 := HTB.out j c hc
              obtain ⟨r, hr⟩ : ∃ r, c.toNat % 6 = r := ⟨_, rfl⟩
              have hr6 : r < 6 := by rw [← hr]; exact Nat.mod_lt _ (by decide)
              have t2 : ((c.toNat : Nat) : Int).tmod 6 = (r : Int) := by rw [Int.tmod_eq_emod_of_nonneg (by omega), ← hr]; rfl
              have hG : gW bs k = sps.getD r [32] := by
                have e : bs.getD j 0 = c := by rw [List.getD_eq_getElem?_getD, hc]; rfl
                unfold gW; rw [HBN.out, hj, e, hr]
              have hbw := hBB.trans (hbx.mono hBB.size)
              have d1 := ((hbw.alloc hbw.size (.cells #[.string ⟨#[32]⟩, .string ⟨#[9]⟩, .string ⟨#[32, 47, 42, 32, 120, 32, 42, 47]⟩, .string ⟨#[32, 32]⟩, .string ⟨#[32, 47, 42, 42, 47, 32, 47, 42, 32, 10, 32, 42, 47]⟩, .string ⟨#[11, 12]⟩] 9)).cell (p := x.add j) (cellR_lt c1)).trans c1
              have d0 := six_cell wr r hr6
              rw [← hG] at d0
              have hcn := c.toNat_lt
              obtain ⟨G, hGG⟩ : ∃ G, gW bs k = G := ⟨_, rfl⟩
              rw [hGG] at d0 hgl
              have hGs : (⟨G.toArray⟩ : ByteArray).size = G.length := rfl
              have hGl : G.length ≤ 22 := by omega
              obtain ⟨y0, y1, y4⟩ := HQ.out _ (hbx.alloc hbs (.cells #[.string ⟨#[32]⟩, .string ⟨#[9]⟩, .string ⟨#[32, 47, 42, 32, 120, 32, 42, 47]⟩, .string ⟨#[32, 32]⟩, .string ⟨#[32, 47, 42, 42, 47, 32, 47, 42, 32, 10, 32, 42, 47]⟩, .string ⟨#[11, 12]⟩] 9))
              have i0j : (0 : Int) ≤ (j : Int) := by omega
              have i1j : (j : Int) < (n : Int) := by omega
              have i2j : ¬ (n : Int) ≤ (j : Int) := by omega
              have i0r : (0 : Int) ≤ (r : Int) := by omega
              have i1r : (r : Int) < 6 := by omega
              have i2r : ¬ (6 : Int) ≤ (r : Int) := by omega
              have i3n : ¬ (n : Int) = 0 := by omega
              have hbsA : w2.heap.size ≤ (wr.alloc (.cells #[.string ⟨#[32]⟩, .string ⟨#[9]⟩, .string ⟨#[32, 47, 42, 32, 120, 32, 42, 47]⟩, .string ⟨#[32, 32]⟩, .string ⟨#[32, 47, 42, 42, 47, 32, 47, 42, 32, 10, 32, 42, 47]⟩, .string ⟨#[11, 12]⟩] 9)).heap.size := by rw [World.size_alloc]; omega
              have HN : Hid ((pre ++ G ++ u.tx.data.toList) ++ newZ (gW bs) (k + 1) (us.drop (k + 1)) = X) := Lib.hid (by
                have := HPC.out
                rw [hGG, if_pos (.inr hsp), if_neg (by omega), ← List.append_assoc, ← List.append_assoc] at this
                exact this)
              rw [hsp] at q4
              clear HPC c1 hc hr hj hG hGG
              go_wp2_with (at_builtin; first
                | (refine Lib.wpList_append_own_string _ rfl _ _ 45 9 rfl w2.heap.size 5 i0 Try.underlying45 Try.underlying9 hi hz0 hz1 hz2 _ _ _ rfl (hown.alloc _) ⟨G.toArray⟩ rfl (by unfold maxLen; omega) (by omega) hbsA ?_; intro v3 w3 hown3 hgrow3 hn3; clear hn3; have hl3 := hown.lt; have hB3 := (hbx.alloc hbs (.cells #[.string ⟨#[32]⟩, .string ⟨#[9]⟩, .string ⟨#[32, 47, 42, 32, 120, 32, 42, 47]⟩, .string ⟨#[32, 32]⟩, .string ⟨#[32, 47, 42, 42, 47, 32, 47, 42, 32, 10, 32, 42, 47]⟩, .string ⟨#[11, 12]⟩] 9)).grown hgrow3 hbsA (fun j e => (hl3 j e).1); obtain ⟨x0, x1, x4⟩ := HQ.out _ hB3; have hbs3 := hB3.size; clear y0 y1 y4)
                | (refine Lib.wpList_append_own_string _ rfl _ _ 45 9 rfl w2.heap.size 5 i0 Try.underlying45 Try.underlying9 hi hz0 hz1 hz2 _ _ _ rfl (hown3) u.tx rfl (by unfold maxLen; omega) (by omega) hbs3 ?_; intro v4 w4 hown4 hgrow4 hn4; clear hn4; have hl4 := hown3.lt; have hB4 := hB3.grown hgrow4 hbs3 (fun j e => (hl4 j e).1)))
              go_roundg (m - (k + 1))
              case rel =>
                refine ⟨k + 1, pre ++ G ++ u.tx.data.toList, by omega, by go_num, rfl, ?_, HN, HN2, ?_, hB4⟩
                · rw [List.length_append, List.length_append, size_list]; omega
                · rw [List.length_append, List.length_append, bR_app, bR_app, size_list]; exact hown4
              case measure => omega
            | false =>
              have e9 : (u.k == 9) = false := by simp [h9]
              have e8 : (u.k == 8) = false := by simp; omega
              have e8n : (u.k != 8) = true := by simp; omega
              have HN : Hid ((pre ++ u.tx.data.toList) ++ newZ (gW bs) (k + 1) (us.drop (k + 1)) = X) := Lib.hid (by
                have := HPC.out
                rw [if_neg (by rw [hsp]; simp; omega), if_neg (by omega), List.nil_append, ← List.append_assoc] at this
                exact this)
              rw [hsp] at q4
              clear HPC
              go_wp2_with (at_builtin; refine Lib.wpList_append_own_string _ rfl _ _ 45 9 rfl w2.heap.size 5 i0 Try.underlying45 Try.underlying9 hi hz0 hz1 hz2 _ _ _ rfl (hown) u.tx rfl (by unfold maxLen; omega) (by omega) hbs ?_; intro v4 w4 hown4 hgrow4 hn4; clear hn4; have hl4 := hown.lt; have hB4 := hbx.grown hgrow4 hbs (fun j e => (hl4 j e).1))
              go_roundg (m - (k + 1))
              case rel =>
                refine ⟨k + 1, pre ++ u.tx.data.toList, by omega, by go_num, rfl, ?_, HN, HN2, ?_, hB4⟩
                · rw [List.length_append, size_list]; omega
                · rw [List.length_append, bR_app, size_list]; exact hown4
              case measure => omega
    · obtain rfl : k = m := by omega
      have hpx := HP1.out
      rw [List.drop_of_length_le (by rw [HM.out]; exact Nat.le_refl _), newZ, List.append_nil] at hpx
      subst hpx
      obtain ⟨x1, x2, x3, x4, x5⟩ := HP.out (fun j u hu h9 => HP2.out j u (by rw [← HM.out]; exact (List.getElem?_eq_some_iff.1 hu).1) hu h9)
      have CS := fun W => spell_any ⟨pre.toArray⟩ W (by show pre.length ≤ maxLen; unfold maxLen; omega)
      have hpl2 : (⟨pre.toArray⟩ : ByteArray).data.toList = pre := rfl
      rw [hpl2, x1, ← HTX.out] at CS
      have hTz : T.size ≤ maxLen := by
        have := spellOut_len pre
        rw [HTX.out]
        show (spellOut pre).1.length ≤ maxLen
        unfold maxLen; omega
      have HLT := fun w1 (hb : Below w.heap.size w w1) => ldefined_any T w1 hTz (hL.low hb)
      rw [x3, x5] at HLT
      rw [x4] at HLD
      obtain ⟨av, cv, rfl⟩ := row_shape hown
      have hconv := convR_row rfl hown
      have j1 : ¬ (k : Int) < (k : Int) := by omega
      have hbw := hBB.trans (hbx.mono hBB.size)
      clear HP HP1 HP2 HX HTX HM HFU HTB HBN HI x1 x2 x3 x4 x5 hi hz0 hz1 hz2 hown hbx
      go_wp2_with fail
      refine (CS _).mono ?_
      rintro e w3 ⟨rfl, hb3⟩
      have hB3 := hbw.trans (hb3.mono hbw.size)
      clear CS hconv
      go_wp2_with fail
      refine (HLD _ hB3).mono ?_
      cases D with
      | none =>
        rintro e w4 ⟨rfl, hb4⟩
        have hB4 := hB3.trans (hb4.mono hB3.size)
        have hbM := below1 w4 (.cells #[.string ⟨#[]⟩, .bool false, .slice none 0 0, .bool false, .slice none 0 0] 26)
        have hM := MzBox.new w4 (.string ⟨#[]⟩) (.bool false) (.slice none 0 0) (.bool false) (.slice none 0 0)
        have hB5 := hB4.trans (hbM.mono hB4.size)
        clear HLD
        go_wp2_with fail
        refine (HLT _ hB5).mono ?_
        rintro e w6 ⟨rfl, hb6⟩
        have hB6 := hB5.trans (hb6.mono hB5.size)
        have hbN := below1 w6 (.cells #[.string ⟨#[]⟩, .bool false, .slice none 0 0, .bool false, .slice none 0 0] 26)
        have hN := MzBox.new w6 (.string ⟨#[]⟩) (.bool false) (.slice none 0 0) (.bool false) (.slice none 0 0)
        have hM7 := (hM.below hb6).below hbN
        have hB7 := hB6.trans (hbN.mono hB6.size)
        have e0 : sameM ⟨⟨#[]⟩, false, [], false, []⟩ ⟨⟨#[]⟩, false, [], false, []⟩ = true := sameM_self _
        have CM := fun (W : World) => same_mz ⟨⟨#[]⟩, false, [], false, []⟩ ⟨⟨#[]⟩, false, [], false, []⟩ none none none none 0 0 0 0 W (Nat.zero_le _) (Nat.zero_le _) (Nat.zero_le _) (Nat.zero_le _) (fun hp => absurd hp (Nat.lt_irrefl 0)) (fun hp => absurd hp (Nat.lt_irrefl 0)) (fun hp => absurd hp (Nat.lt_irrefl 0)) (fun hp => absurd hp (Nat.lt_irrefl 0))
        rw [e0] at CM
        obtain ⟨z0, z1, z2, z3, z4, -, -, -, -, -⟩ := hN.facts
        obtain ⟨y0, y1, y2, y3, y4, -, -, -, -, -⟩ := hM7.facts
        clear HLT
        go_wp2_with fail
        refine (CM _).mono ?_
        rintro e w8 ⟨rfl, hb8⟩
        clear CM z0 z1 z2 z3 z4 y0 y1 y2 y3 y4
        go_wp2
        go_ret
        exact ⟨rfl, hB7.trans (hb8.mono hB7.size)⟩
      | some d =>
        have hDf : d.ps.length ≤ 65536 ∧ d.bs.length ≤ 65536 ∧ ∀ p ∈ d.bs, p.ps = [] := HDF.out d rfl
        obtain ⟨f1, f2, f3⟩ := hDf
        rintro e w4 ⟨⟨v, u, rfl, hr1, hr2⟩, hb4⟩
        obtain ⟨va, vc, rfl⟩ := row_shape hr1
        obtain ⟨ua, uc, rfl⟩ := row_shape hr2
        have hB4 := hB3.trans (hb4.mono hB3.size)
        have hbM := below1 w4 (.cells #[.string d.nm, .bool d.fn, .slice va d.ps.length vc, .bool d.vr, .slice ua d.bs.length uc] 26)
        have hM := MzBox.new w4 (.string d.nm) (.bool d.fn) (.slice va d.ps.length vc) (.bool d.vr) (.slice ua d.bs.length uc)
        have hB5 := hB4.trans (hbM.mono hB4.size)
        have hs1 := (strIn_row rfl hr1).below hbM
        have hs2 := (pzIn_row rfl f3 hr2).below hbM
        clear HLD hr1 hr2
        go_wp2_with fail
        refine (HLT _ hB5).mono ?_
        rintro e w6 ⟨⟨v', u', rfl, hr3, hr4⟩, hb6⟩
        obtain ⟨va', vc', rfl⟩ := row_shape hr3
        obtain ⟨ua', uc', rfl⟩ := row_shape hr4
        have hB6 := hB5.trans (hb6.mono hB5.size)
        have hbN := below1 w6 (.cells #[.string d.nm, .bool d.fn, .slice va' d.ps.length vc', .bool d.vr, .slice ua' d.bs.length uc'] 26)
        have hN := MzBox.new w6 (.string d.nm) (.bool d.fn) (.slice va' d.ps.length vc') (.bool d.vr) (.slice ua' d.bs.length uc')
        have hM7 := (hM.below hb6).below hbN
        have hB7 := hB6.trans (hbN.mono hB6.size)
        have CM := same_mz d d va va' ua ua' vc vc' uc uc' _ (by omega) (by omega) (by omega) (by omega) ((hs1.below hb6).below hbN) ((strIn_row rfl hr3).below hbN) ((hs2.below hb6).below hbN) ((pzIn_row rfl f3 hr4).below hbN)
        rw [sameM_self] at CM
        obtain ⟨z0, z1, z2, z3, z4, -, -, -, -, -⟩ := hN.facts
        obtain ⟨y0, y1, y2, y3, y4, -, -, -, -, -⟩ := hM7.facts
        clear HLT hs1 hs2 hr3 hr4
        go_wp2_with fail
        refine CM.mono ?_
        rintro e w8 ⟨rfl, hb8⟩
        clear CM z0 z1 z2 z3 z4 y0 y1 y2 y3 y4
        go_wp2
        go_ret
        exact ⟨rfl, hB7.trans (hb8.mono hB7.size)⟩

end Go.Proofs.Ytaodjipnffgihaa
