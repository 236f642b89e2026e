/- Several texts laid together. -/
import Derived.Test.YtaodjipnffgihaaGreatMzO
import Derived.Test.YtaodjipnffgihaaGreatMzE
import Derived.WalkSmall
import Derived.Test.YtaodjipnffgihaaGreatMzD
import Derived.Test.YtaodjipnffgihaaGreatMzA
import Derived.Deep.LoopGhost

namespace Go.Proofs.YtaodjipnffgihaaGreat
open Go.RowKit

/-- The kind of a text that is a token of the kinds 1 to 5 or 9; 0: it is none. -/
def kindR (x : List UInt8) : Nat :=
  if x == [10] then 9 else if wordB x then 1 else if numF x then 2 else if litB 39 1 x chPre then 3 else if litB 34 0 x stPre then 4 else if isPunctB x then 5 else 0

theorem chB4_get : ∀ (j : Nat) T, chB4[j]? = some T → (#[Value.string ⟨#[]⟩, .string ⟨#[117]⟩, .string ⟨#[85]⟩, .string ⟨#[76]⟩] : Array Value)[j]? = some (.string T) := by
  intro j T h
  match j, h with
  | 0, h => cases h; rfl
  | 1, h => cases h; rfl
  | 2, h => cases h; rfl
  | 3, h => cases h; rfl
  | j + 4, h => simp [chB4] at h
theorem stB5_get : ∀ (j : Nat) T, stB5[j]? = some T → (#[Value.string ⟨#[]⟩, .string ⟨#[117, 56]⟩, .string ⟨#[117]⟩, .string ⟨#[85]⟩, .string ⟨#[76]⟩] : Array Value)[j]? = some (.string T) := by
  intro j T h
  match j, h with
  | 0, h => cases h; rfl
  | 1, h => cases h; rfl
  | 2, h => cases h; rfl
  | 3, h => cases h; rfl
  | 4, h => cases h; rfl
  | j + 5, h => simp [stB5] at h

theorem lit3 (s : ByteArray) (w : World) (hs : s.size ≤ 65536) :
    Calls Tryz.prog 103 #[.string s, .int .u8 39, .slice (some ⟨w.heap.size, 0, none⟩) 4 4] (w.alloc (.cells #[.string ⟨#[]⟩, .string ⟨#[117]⟩, .string ⟨#[85]⟩, .string ⟨#[76]⟩] 9)) fun e w' => e = .returned (.bool (litB 39 1 s.data.toList chPre)) ∧ Below w.heap.size w w' :=
  (rIsLiteral_any s 39 1 chB4 w.heap.size 4 _ (by unfold maxLen; omega) (.inl ⟨rfl, rfl⟩) rfl (by decide) (fun j T h => mcells j _ (chB4_get j T h)) (by decide)).mono (by rintro e w' ⟨rfl, m, rfl⟩; exact ⟨rfl, below_drewN ((Below.refl _ _).alloc (Nat.le_refl _) _) _⟩)
theorem lit4 (s : ByteArray) (w : World) (hs : s.size ≤ 65536) :
    Calls Tryz.prog 103 #[.string s, .int .u8 34, .slice (some ⟨w.heap.size, 0, none⟩) 5 5] (w.alloc (.cells #[.string ⟨#[]⟩, .string ⟨#[117, 56]⟩, .string ⟨#[117]⟩, .string ⟨#[85]⟩, .string ⟨#[76]⟩] 9)) fun e w' => e = .returned (.bool (litB 34 0 s.data.toList stPre)) ∧ Below w.heap.size w w' :=
  (rIsLiteral_any s 34 0 stB5 w.heap.size 5 _ (by unfold maxLen; omega) (.inr ⟨rfl, rfl⟩) rfl (by decide) (fun j T h => mcells j _ (stB5_get j T h)) (by decide)).mono (by rintro e w' ⟨rfl, m, rfl⟩; exact ⟨rfl, below_drewN ((Below.refl _ _).alloc (Nat.le_refl _) _) _⟩)

set_option maxRecDepth 100000 in
set_option maxHeartbeats 1000000 in
theorem rKind_any (s : ByteArray) (w : World) (hs : s.size ≤ 65536) :
    Calls Tryz.prog 87 #[.string s] w fun e w' => e = .returned (.int .i64 (kindR s.data.toList : Nat)) ∧ Below w.heap.size w w' := by
  have hsm : s.size ≤ maxLen := by unfold maxLen; omega
  have CW := fun w => rIsWord_any s w hsm
  have CN := fun w => rIsNumber_any _ s (Nat.le_refl _) w hsm
  have C3 := fun w => lit3 s w hs
  have C4 := fun w => lit4 s w hs
  have C5 := fun w => rIsPunct_any s w hs
  have HK : Hid (kindR s.data.toList = if (s.toList == [10]) = true then 9 else if wordB s.data.toList then 1 else if numF s.data.toList then 2 else if litB 39 1 s.data.toList chPre then 3 else if litB 34 0 s.data.toList stPre then 4 else if isPunctB s.data.toList then 5 else 0) := Lib.hid (by rw [ByteArray.toList_eq]; rfl)
  generalize kindR s.data.toList = K at HK ⊢
  generalize wordB s.data.toList = c1 at HK CW
  generalize numF s.data.toList = c2 at HK CN
  generalize litB 39 1 s.data.toList chPre = c3 at HK C3
  generalize litB 34 0 s.data.toList stPre = c4 at HK C4
  generalize isPunctB s.data.toList = c5 at HK C5
  cases h0 : (s.toList == [10])
  · cases c1
    · cases c2
      · cases c3
        · cases c4
          · cases c5
            · have HK2 : Hid (K = 0) := Lib.hid (by rw [HK.out]; simp [h0])
              clear HK
              go_enter Tryz.func87, Tryz.ntmps87
              go_wp2_with fail
              refine (CW _).mono ?_
              rintro e w' ⟨rfl, rfl⟩
              go_wp2_with fail
              refine (CN _).mono ?_
              rintro e w' ⟨rfl, rfl⟩
              go_wp2_with fail
              refine (C3 _).mono ?_
              rintro e w3 ⟨rfl, b3⟩
              go_wp2_with fail
              refine (C4 _).mono ?_
              rintro e w4 ⟨rfl, b4⟩
              go_wp2_with fail
              refine (C5 _).mono ?_
              rintro e w' ⟨rfl, rfl⟩
              go_wp2
              go_ret
              exact ⟨ri (by rw [HK2.out]; rfl), b3.trans (b4.mono b3.size)⟩
            · have HK2 : Hid (K = 5) := Lib.hid (by rw [HK.out]; simp [h0])
              clear HK
              go_enter Tryz.func87, Tryz.ntmps87
              go_wp2_with fail
              refine (CW _).mono ?_
              rintro e w' ⟨rfl, rfl⟩
              go_wp2_with fail
              refine (CN _).mono ?_
              rintro e w' ⟨rfl, rfl⟩
              go_wp2_with fail
              refine (C3 _).mono ?_
              rintro e w3 ⟨rfl, b3⟩
              go_wp2_with fail
              refine (C4 _).mono ?_
              rintro e w4 ⟨rfl, b4⟩
              go_wp2_with fail
              refine (C5 _).mono ?_
              rintro e w' ⟨rfl, rfl⟩
              go_wp2
              go_ret
              exact ⟨ri (by rw [HK2.out]; rfl), b3.trans (b4.mono b3.size)⟩
          · have HK2 : Hid (K = 4) := Lib.hid (by rw [HK.out]; simp [h0])
            clear HK
            go_enter Tryz.func87, Tryz.ntmps87
            go_wp2_with fail
            refine (CW _).mono ?_
            rintro e w' ⟨rfl, rfl⟩
            go_wp2_with fail
            refine (CN _).mono ?_
            rintro e w' ⟨rfl, rfl⟩
            go_wp2_with fail
            refine (C3 _).mono ?_
            rintro e w3 ⟨rfl, b3⟩
            go_wp2_with fail
            refine (C4 _).mono ?_
            rintro e w4 ⟨rfl, b4⟩
            go_wp2
            go_ret
            exact ⟨ri (by rw [HK2.out]; rfl), b3.trans (b4.mono b3.size)⟩
        · have HK2 : Hid (K = 3) := Lib.hid (by rw [HK.out]; simp [h0])
          clear HK
          go_enter Tryz.func87, Tryz.ntmps87
          go_wp2_with fail
          refine (CW _).mono ?_
          rintro e w' ⟨rfl, rfl⟩
          go_wp2_with fail
          refine (CN _).mono ?_
          rintro e w' ⟨rfl, rfl⟩
          go_wp2_with fail
          refine (C3 _).mono ?_
          rintro e w3 ⟨rfl, b3⟩
          go_wp2
          go_ret
          exact ⟨ri (by rw [HK2.out]; rfl), b3⟩
      · have HK2 : Hid (K = 2) := Lib.hid (by rw [HK.out]; simp [h0])
        clear HK
        go_enter Tryz.func87, Tryz.ntmps87
        go_wp2_with fail
        refine (CW _).mono ?_
        rintro e w' ⟨rfl, rfl⟩
        go_wp2_with fail
        refine (CN _).mono ?_
        rintro e w' ⟨rfl, rfl⟩
        go_wp2
        go_ret
        exact ⟨ri (by rw [HK2.out]; rfl), Below.refl _ _⟩
    · have HK2 : Hid (K = 1) := Lib.hid (by rw [HK.out]; simp [h0])
      clear HK
      go_enter Tryz.func87, Tryz.ntmps87
      go_wp2_with fail
      refine (CW _).mono ?_
      rintro e w' ⟨rfl, rfl⟩
      go_wp2
      go_ret
      exact ⟨ri (by rw [HK2.out]; rfl), Below.refl _ _⟩
  · have HK2 : Hid (K = 9) := Lib.hid (by rw [HK.out]; simp [h0])
    clear HK
    go_enter Tryz.func87, Tryz.ntmps87
    go_wp2
    go_ret
    exact ⟨ri (by rw [HK2.out]; rfl), Below.refl _ _⟩

end Go.Proofs.YtaodjipnffgihaaGreat

namespace Go.Proofs.YtaodjipnffgihaaGreat
open Go.RowKit

set_option maxHeartbeats 2000000 in
theorem rnamed_any (s : ByteArray) (w : World) (hs : s.size ≤ maxLen) (h0 : 0 < s.size) :
    Calls Tryz.prog 64 #[.string s] w fun e w' => e = .returned (.int .i64 (headerLen s.data.toList : Nat)) ∧ w = w' := by
  unfold maxLen at hs
  have HH := Lib.hid (header_at h0)
  have h0i : (0 : Int) < (s.size : Int) := by omega
  by_cases h1 : s[0] = 34
  · have HL : Hid (headerLen s.data.toList = headOf (closeAt 34 s 1)) := Lib.hid (by rw [HH.out, if_pos (by simp [h1])])
    have e0 : (s[0].toNat : Int) = 34 := by rw [h1]; rfl
    clear h1 HH
    go_enter Tryz.func64, Tryz.ntmps64
    go_wp2
    go_loop [4] (fun i => ∃ k : Nat, 1 ≤ k ∧ k ≤ s.size ∧ i = .int .i64 k ∧ Hid (closeAt 34 s 1 = (closeAt 34 s k).map (· + (k - 1)))) (fun i => s.size - (intOf i).toNat)
    case atStart => exact ⟨1, Nat.le_refl _, h0, rfl, Lib.hid (by rw [Nat.sub_self, mapAdd0])⟩
    case round =>
      obtain ⟨k, hk1, hk, rfl, HE⟩ := hrel
      by_cases hlt : k < s.size
      · cases h3 : (s[k] == 10) with
        | true =>
          have HN : Hid (headerLen s.data.toList = 0) := Lib.hid (by rw [HL.out, HE.out, close_nl hlt h3]; rfl)
          have b3 : ((s[k].toNat : Int) != 10) = false := by rw [eq_of_beq h3]; rfl
          clear HE HL h3
          go_wp2
          go_ret
          exact ⟨ri (by rw [HN.out]; rfl), rfl⟩
        | false =>
          have b3 : ((s[k].toNat : Int) != 10) = true := by rw [bne_iff_ne]; exact fun h => (beq_eq_false_iff_ne.1 h3) (u8_int.2 h)
          cases h4 : (s[k] == 34) with
          | true =>
            have HN : Hid (headerLen s.data.toList = k + 1) := Lib.hid (by rw [HL.out, HE.out, close_hit hlt h3 h4]; show 0 + (k - 1) + 2 = k + 1; omega)
            have b4 : ((s[k].toNat : Int) == 34) = true := by rw [eq_of_beq h4]; rfl
            clear HE HL h3 h4
            go_wp2
            go_ret
            exact ⟨ri (by rw [HN.out]; rfl), rfl⟩
          | false =>
            have HN := Lib.hid (HE.out.trans (by rw [close_step hlt h3 h4, mapAdd2, show 1 + (k - 1) = k + 1 - 1 by omega] : _ = (closeAt 34 s (k + 1)).map (· + (k + 1 - 1))))
            have b4 : ((s[k].toNat : Int) == 34) = false := beq_eq_false_iff_ne.2 (fun h => (beq_eq_false_iff_ne.1 h4) (u8_int.2 h))
            clear HE h3 h4
            go_wp2
            go_round
            case rel => exact ⟨k + 1, by omega, by omega, by go_num, HN⟩
            case measure => simp [intOf]; omega
      · have HN : Hid (headerLen s.data.toList = 0) := Lib.hid (by rw [HL.out, HE.out, close_end (by omega)]; rfl)
        go_wp2
        go_ret
        exact ⟨ri (by rw [HN.out]; rfl), rfl⟩
  · by_cases h2 : s[0] = 60
    · have HL : Hid (headerLen s.data.toList = headOf (closeAt 62 s 1)) := Lib.hid (by rw [HH.out, if_neg (by simp [h2]), if_pos (by simp [h2])])
      have e0 : (s[0].toNat : Int) = 60 := by rw [h2]; rfl
      clear h1 h2 HH
      go_enter Tryz.func64, Tryz.ntmps64
      go_wp2
      go_loop [4] (fun i => ∃ k : Nat, 1 ≤ k ∧ k ≤ s.size ∧ i = .int .i64 k ∧ Hid (closeAt 62 s 1 = (closeAt 62 s k).map (· + (k - 1)))) (fun i => s.size - (intOf i).toNat)
      case atStart => exact ⟨1, Nat.le_refl _, h0, rfl, Lib.hid (by rw [Nat.sub_self, mapAdd0])⟩
      case round =>
        obtain ⟨k, hk1, hk, rfl, HE⟩ := hrel
        by_cases hlt : k < s.size
        · cases h3 : (s[k] == 10) with
          | true =>
            have HN : Hid (headerLen s.data.toList = 0) := Lib.hid (by rw [HL.out, HE.out, close_nl hlt h3]; rfl)
            have b3 : ((s[k].toNat : Int) != 10) = false := by rw [eq_of_beq h3]; rfl
            clear HE HL h3
            go_wp2
            go_ret
            exact ⟨ri (by rw [HN.out]; rfl), rfl⟩
          | false =>
            have b3 : ((s[k].toNat : Int) != 10) = true := by rw [bne_iff_ne]; exact fun h => (beq_eq_false_iff_ne.1 h3) (u8_int.2 h)
            cases h4 : (s[k] == 62) with
            | true =>
              have HN : Hid (headerLen s.data.toList = k + 1) := Lib.hid (by rw [HL.out, HE.out, close_hit hlt h3 h4]; show 0 + (k - 1) + 2 = k + 1; omega)
              have b4 : ((s[k].toNat : Int) == 62) = true := by rw [eq_of_beq h4]; rfl
              clear HE HL h3 h4
              go_wp2
              go_ret
              exact ⟨ri (by rw [HN.out]; rfl), rfl⟩
            | false =>
              have HN := Lib.hid (HE.out.trans (by rw [close_step hlt h3 h4, mapAdd2, show 1 + (k - 1) = k + 1 - 1 by omega] : _ = (closeAt 62 s (k + 1)).map (· + (k + 1 - 1))))
              have b4 : ((s[k].toNat : Int) == 62) = false := beq_eq_false_iff_ne.2 (fun h => (beq_eq_false_iff_ne.1 h4) (u8_int.2 h))
              clear HE h3 h4
              go_wp2
              go_round
              case rel => exact ⟨k + 1, by omega, by omega, by go_num, HN⟩
              case measure => simp [intOf]; omega
        · have HN : Hid (headerLen s.data.toList = 0) := Lib.hid (by rw [HL.out, HE.out, close_end (by omega)]; rfl)
          go_wp2
          go_ret
          exact ⟨ri (by rw [HN.out]; rfl), rfl⟩
    · have HL : Hid (headerLen s.data.toList = 0) := Lib.hid (by rw [HH.out, if_neg (by simp [h1]), if_neg (by simp [h2])])
      have b1 : ((s[0].toNat : Int) != 34) = true := by rw [bne_iff_ne]; exact fun h => h1 (u8_int.2 h)
      have b2 : ((s[0].toNat : Int) != 60) = true := by rw [bne_iff_ne]; exact fun h => h2 (u8_int.2 h)
      clear h1 h2 HH
      go_enter Tryz.func64, Tryz.ntmps64
      go_wp2
      go_ret
      exact ⟨ri (by rw [HL.out]; rfl), rfl⟩

end Go.Proofs.YtaodjipnffgihaaGreat

namespace Go.Proofs.YtaodjipnffgihaaGreat
open Go.RowKit

/-- How many bytes a comment at the beginning has; 0: there is none; -1: it does not end. -/
def remR (l : List UInt8) : Int := if isComment l then (if commentLen l = 0 then -1 else (commentLen l : Nat)) else 0
theorem two_at {s : ByteArray} (h : 2 ≤ s.size) : s.data.toList = s[0] :: s[1] :: s.data.toList.drop 2 := by
  have h0 := data_drop s 0 (by omega)
  have h1 := data_drop s 1 (by omega)
  rw [h1, List.drop_zero] at h0
  exact h0
theorem rem_short {s : ByteArray} (h : s.size < 2) : remR s.data.toList = 0 := by
  unfold remR
  rw [if_neg]
  intro hc
  rw [isComment, Bool.or_eq_true] at hc
  rcases hc with hc | hc <;> (have := (List.isPrefixOf_iff_prefix.1 hc).length_le; rw [size_list] at this; simp at this; omega)
theorem rem_no {s : ByteArray} (h : 2 ≤ s.size) (h1 : s[0] ≠ 47 ∨ (s[1] ≠ 47 ∧ s[1] ≠ 42)) : remR s.data.toList = 0 := by
  unfold remR
  rw [two_at h, isComment_cons, if_neg]
  rcases h1 with h1 | h1
  · simp [h1]
  · simp [h1.1, h1.2]
theorem rem_line {s : ByteArray} (h : 2 ≤ s.size) (h0 : s[0] = 47) (h1 : s[1] = 47) : remR s.data.toList = ((2 + runLen notNl (s.data.toList.drop 2) : Nat) : Int) := by
  have hc : isComment s.data.toList = true := by rw [two_at h, isComment_cons, h0, h1]; rfl
  have hl : commentLen s.data.toList = 2 + runLen notNl (s.data.toList.drop 2) := by
    unfold commentLen
    rw [if_pos]
    rw [two_at h, h0, h1]; rfl
  unfold remR
  rw [if_pos hc, hl, if_neg (by omega)]
def remC : Option Nat → Int
  | some n => (n : Int) + 4
  | none => -1
theorem rem_star {s : ByteArray} (h : 2 ≤ s.size) (h0 : s[0] = 47) (h1 : s[1] = 42) : remR s.data.toList = remC (closeC (s.data.toList.drop 2)) := by
  have hc : isComment s.data.toList = true := by rw [two_at h, isComment_cons, h0, h1]; rfl
  have hl : commentLen s.data.toList = match closeC (s.data.toList.drop 2) with | some n => n + 4 | none => 0 := by
    unfold commentLen
    rw [if_neg (show ¬ [47, 47].isPrefixOf s.data.toList = true by rw [two_at h, h0, h1]; simp [List.isPrefixOf])]
    cases closeC (s.data.toList.drop 2) <;> rfl
  unfold remR
  rw [if_pos hc, hl]
  cases closeC (s.data.toList.drop 2) <;> rfl
def closeS (s : ByteArray) (k : Nat) : Option Nat := closeC (s.data.toList.drop k)
theorem cs_end {s : ByteArray} {k : Nat} (h : s.size ≤ k + 1) : closeS s k = none := by
  unfold closeS
  rcases Nat.lt_or_ge k s.size with h1 | h1
  · rw [data_drop s k h1, List.drop_eq_nil_of_le (by rw [size_list]; exact h), closeC_cons]; simp [closeC]
  · rw [List.drop_eq_nil_of_le (by rw [size_list]; exact h1), closeC]
theorem cs_hit {s : ByteArray} {k : Nat} (h : k + 1 < s.size) (h1 : s[k] = 42) (h2 : s[k + 1] = 47) : closeS s k = some 0 := by
  unfold closeS
  rw [data_drop s k (by omega), data_drop s (k + 1) h, closeC_cons, if_pos (by simp [h1, h2])]
theorem cs_step {s : ByteArray} {k : Nat} (h : k + 1 < s.size) (h1 : s[k] ≠ 42 ∨ s[k + 1] ≠ 47) : closeS s k = (closeS s (k + 1)).map (· + 1) := by
  unfold closeS
  rw [data_drop s k (by omega), closeC_cons, if_neg]
  rw [data_drop s (k + 1) h]
  rcases h1 with h1 | h1 <;> simp [h1]

set_option maxHeartbeats 2000000 in
theorem rremark_any (s : ByteArray) (w : World) (hs : s.size ≤ maxLen) :
    Calls Tryz.prog 65 #[.string s] w fun e w' => e = .returned (.int .i64 (remR s.data.toList)) ∧ w = w' := by
  unfold maxLen at hs
  by_cases hz : s.size < 2
  · have HN := Lib.hid (rem_short hz)
    have b0 : (s.size : Int) < 2 := by omega
    clear hz
    go_enter Tryz.func65, Tryz.ntmps65
    go_wp2
    go_ret
    exact ⟨ri (by rw [HN.out]), rfl⟩
  · have hz2 : 2 ≤ s.size := by omega
    have b0 : ¬ (s.size : Int) < 2 := by omega
    have i0 : (0 : Int) < (s.size : Int) := by omega
    have i1 : (1 : Int) < (s.size : Int) := by omega
    by_cases h0 : s[0] = 47
    · have e0 : (s[0].toNat : Int) = 47 := by rw [h0]; rfl
      by_cases h1 : s[1] = 47
      · have HL := Lib.hid (rem_line hz2 h0 h1)
        have e1 : (s[1].toNat : Int) = 47 := by rw [h1]; rfl
        clear h0 h1
        go_enter Tryz.func65, Tryz.ntmps65
        go_wp2
        go_loop [3] (fun i => ∃ k : Nat, 2 ≤ k ∧ k ≤ s.size ∧ i = .int .i64 k ∧ Hid (runLen notNl (s.data.toList.drop 2) = (k - 2) + runLen notNl (s.data.toList.drop k))) (fun i => s.size - (intOf i).toNat)
        case atStart => exact ⟨2, Nat.le_refl _, hz2, rfl, Lib.hid (by simp)⟩
        case round =>
          obtain ⟨k, hk2, hk, rfl, HE⟩ := hrel
          by_cases hlt : k < s.size
          · by_cases h3 : s[k] = 10
            · have HN : Hid (remR s.data.toList = (k : Int)) := Lib.hid (by
                have h4 : notNl s[k] = false := by rw [h3]; rfl
                rw [HL.out, HE.out, runLen_no hlt h4]; omega)
              have b3 : ((s[k].toNat : Int) == 10) = true := by rw [h3]; rfl
              clear HE HL h3
              go_wp2
              go_ret
              exact ⟨ri (by rw [HN.out]), rfl⟩
            · have h4 : notNl s[k] = true := by unfold notNl; simp [h3]
              have HN := Lib.hid (HE.out.trans (show _ = (k + 1 - 2) + runLen notNl (s.data.toList.drop (k + 1)) by rw [runLen_yes hlt h4]; omega))
              have b3 : ((s[k].toNat : Int) == 10) = false := beq_eq_false_iff_ne.2 (fun h => h3 (u8_int.2 h))
              clear HE h3 h4
              go_wp2
              go_round
              case rel => exact ⟨k + 1, by omega, by omega, by go_num, HN⟩
              case measure => simp [intOf]; omega
          · have HN : Hid (remR s.data.toList = (s.size : Int)) := Lib.hid (by
              rw [HL.out, HE.out, runLen_end (by omega)]; omega)
            go_wp2
            go_ret
            exact ⟨ri (by rw [HN.out]), rfl⟩
      · by_cases h2 : s[1] = 42
        · have HL := Lib.hid (rem_star hz2 h0 h2)
          have e1 : (s[1].toNat : Int) = 42 := by rw [h2]; rfl
          clear h0 h1 h2
          go_enter Tryz.func65, Tryz.ntmps65
          go_wp2
          go_loop [3] (fun i => ∃ k : Nat, 2 ≤ k ∧ k ≤ s.size ∧ i = .int .i64 k ∧ ((k = 2 ∧ Hid (remR s.data.toList = remC (closeS s 2))) ∨ (2 < k ∧ Hid (closeS s 2 = (closeS s (k - 1)).map (· + (k - 3)))))) (fun i => s.size - (intOf i).toNat)
          case atStart => exact ⟨2, Nat.le_refl _, hz2, rfl, .inl ⟨rfl, HL⟩⟩
          case round =>
            obtain ⟨k, hk2, hk, rfl, HE⟩ := hrel
            by_cases hlt : k < s.size
            · rcases HE with ⟨rfl, HE⟩ | ⟨hk3, HE⟩
              · go_wp2
                go_round
                case rel => exact ⟨3, by omega, by omega, by go_num, .inr ⟨by omega, Lib.hid (by rw [mapAdd0])⟩⟩
                case measure => simp [intOf]; omega
              · obtain ⟨j, rfl⟩ : ∃ j, k = j + 1 := ⟨k - 1, by omega⟩
                have b5 : (2 : Int) < (j : Int) + 1 := by omega
                have v1 : wrap64 ((j : Int) + 1 - 1) = (j : Int) := by rw [show (j : Int) + 1 - 1 = (j : Int) by omega]; exact IntWalk.wrap64_in _ (by omega)
                have v2 : (j : Int) < (s.size : Int) := by omega
                have v3 : (j : Int) + 1 < (s.size : Int) := by omega
                have v4 : ((j : Int) + 1).toNat = j + 1 := by omega
                have v5 : (0 : Int) ≤ (j : Int) + 1 := by omega
                have v6 : (0 : Int) ≤ (j : Int) := by omega
                have v7 : (j : Int) + 1 - 1 = (j : Int) := by omega
                by_cases h3 : s[j + 1] = 47
                · have b3 : ((s[j + 1].toNat : Int) == 47) = true := by rw [h3]; rfl
                  by_cases h4 : s[j] = 42
                  · have HN : Hid (remR s.data.toList = (j : Int) + 1 + 1) := Lib.hid (by
                      have h5 := HE.out
                      rw [show j + 1 - 1 = j from rfl, cs_hit hlt h4 h3] at h5
                      rw [HL.out, show closeC (s.data.toList.drop 2) = closeS s 2 from rfl, h5]
                      show ((0 + (j + 1 - 3) : Nat) : Int) + 4 = _
                      omega)
                    have b4 : ((s[j].toNat : Int) == 42) = true := by rw [h4]; rfl
                    clear HE HL h3 h4
                    go_wp2
                    go_ret
                    exact ⟨ri (by rw [HN.out]), rfl⟩
                  · have HN := Lib.hid (HE.out.trans (show _ = (closeS s (j + 1 + 1 - 1)).map (· + (j + 1 + 1 - 3)) by rw [show j + 1 - 1 = j from rfl, cs_step hlt (.inl h4), mapAdd2, show 1 + (j + 1 - 3) = j + 1 + 1 - 3 by omega]; rfl))
                    have b4 : ((s[j].toNat : Int) == 42) = false := beq_eq_false_iff_ne.2 (fun h => h4 (u8_int.2 h))
                    clear HE h3 h4
                    go_wp2
                    go_round
                    case rel => exact ⟨j + 1 + 1, by omega, by omega, by go_num, .inr ⟨by omega, HN⟩⟩
                    case measure => simp [intOf]; omega
                · have HN := Lib.hid (HE.out.trans (show _ = (closeS s (j + 1 + 1 - 1)).map (· + (j + 1 + 1 - 3)) by rw [show j + 1 - 1 = j from rfl, cs_step hlt (.inr h3), mapAdd2, show 1 + (j + 1 - 3) = j + 1 + 1 - 3 by omega]; rfl))
                  have b3 : ((s[j + 1].toNat : Int) == 47) = false := beq_eq_false_iff_ne.2 (fun h => h3 (u8_int.2 h))
                  clear HE h3
                  go_wp2
                  go_round
                  case rel => exact ⟨j + 1 + 1, by omega, by omega, by go_num, .inr ⟨by omega, HN⟩⟩
                  case measure => simp [intOf]; omega
            · have HN : Hid (remR s.data.toList = -1) := Lib.hid (by
                rcases HE with ⟨h5, HE⟩ | ⟨hk3, HE⟩
                · rw [HE.out, cs_end (by omega)]; rfl
                · rw [HL.out, show closeC (s.data.toList.drop 2) = closeS s 2 from rfl, HE.out, cs_end (by omega)]; rfl)
              clear HE
              go_wp2
              go_ret
              exact ⟨ri (by rw [HN.out]), rfl⟩
        · have HN := Lib.hid (rem_no hz2 (.inr ⟨h1, h2⟩))
          have b1 : ((s[1].toNat : Int) != 47) = true := by rw [bne_iff_ne]; exact fun h => h1 (u8_int.2 h)
          have b2 : ((s[1].toNat : Int) != 42) = true := by rw [bne_iff_ne]; exact fun h => h2 (u8_int.2 h)
          clear h0 h1 h2
          go_enter Tryz.func65, Tryz.ntmps65
          go_wp2
          go_ret
          exact ⟨ri (by rw [HN.out]), rfl⟩
    · have HN := Lib.hid (rem_no hz2 (.inl h0))
      have b1 : ((s[0].toNat : Int) != 47) = true := by rw [bne_iff_ne]; exact fun h => h0 (u8_int.2 h)
      clear h0
      go_enter Tryz.func65, Tryz.ntmps65
      go_wp2
      go_ret
      exact ⟨ri (by rw [HN.out]), rfl⟩

end Go.Proofs.YtaodjipnffgihaaGreat

namespace Go.Proofs.YtaodjipnffgihaaGreat
open Go.RowKit

theorem fold_posS (l : List UInt8) : ∀ (ks : List Nat) (a : Nat × Nat), (ks.foldl (better l) a) = a ∨ ∃ k ∈ ks, (ks.foldl (better l) a).1 = k ∧ measureOf k l = (ks.foldl (better l) a).2 ∧ 0 < (ks.foldl (better l) a).2
  | [], _ => .inl rfl
  | k :: ks, a => by
    rw [List.foldl_cons]
    rcases fold_posS l ks (better l a k) with h | ⟨k', h1, h2⟩
    · rw [h]
      unfold better
      split
      · exact .inr ⟨k, List.mem_cons_self, rfl, rfl, by simp only; omega⟩
      · exact .inl rfl
    · exact .inr ⟨k', List.mem_cons_of_mem _ h1, h2⟩
theorem measures_tenS (l : List UInt8) : measureOf 1 (10 :: l) = 0 ∧ measureOf 2 (10 :: l) = 0 ∧ measureOf 3 (10 :: l) = 0 ∧ measureOf 4 (10 :: l) = 0 ∧ measureOf 5 (10 :: l) = 0 ∧ measureOf 9 (10 :: l) = 1 := by
  refine ⟨rfl, rfl, rfl, rfl, ?_, rfl⟩
  exact Nat.le_zero.1 (punctDown_stop (c := 10) (s := l) (.inr rfl) [] _)
theorem longest_tenS (l : List UInt8) : longestOf (10 :: l) = (9, 1) := by
  obtain ⟨h1, h2, h3, h4, h5, h9⟩ := measures_tenS l
  unfold longestOf
  simp only [List.foldl_cons, List.foldl_nil, better, h1, h2, h3, h4, h5, h9]
  rfl

/-- The longest prefix that is a token, from so many bytes downward. -/
def downK (l : List UInt8) : Nat → Nat × Nat
  | 0 => if isQuote (l.headD 0) then (0, 0) else (6, 1)
  | n + 1 => if kindR (l.take (n + 1)) = 0 then downK l n else (kindR (l.take (n + 1)), n + 1)
def longR (l : List UInt8) : Nat × Nat := if runLen notNl l = 0 then (9, 1) else downK l (runLen notNl l)

/-! ### It is the longest of the measures -/
def kB (k : Nat) (x : List UInt8) : Bool := if k = 1 then wordB x else if k = 2 then numF x else if k = 3 then litB 39 1 x chPre else if k = 4 then litB 34 0 x stPre else isPunctB x
theorem punct_iff {x : List UInt8} (hx : x ≠ []) : punctLen x = x.length ↔ isPunctB x = true := by
  have hp : 0 < x.length := List.length_pos_iff.2 hx
  have hd : ∀ n, punctDown x n = 0 ∨ isPunctB (x.take (punctDown x n)) = true := by
    intro n
    induction n with
    | zero => exact .inl rfl
    | succ n ih =>
      rw [punctDown]
      split
      · rename_i h; exact .inr h
      · exact ih
  constructor
  · intro h
    rcases hd (min x.length 4) with h2 | h2
    · unfold punctLen at h; omega
    · have h3 : punctDown x (min x.length 4) = x.length := h
      rw [h3, List.take_of_length_le (Nat.le_refl _)] at h2
      exact h2
  · intro h
    have h4 := isPunct_len h
    unfold punctLen
    rw [Nat.min_eq_left h4.2]
    obtain ⟨m, hm⟩ : ∃ m, x.length = m + 1 := ⟨x.length - 1, by omega⟩
    rw [hm, punctDown, if_pos]
    rw [← hm, List.take_of_length_le (Nat.le_refl _)]; exact h
theorem kB_iff {k : Nat} {x : List UInt8} (hk : k = 1 ∨ k = 2 ∨ k = 3 ∨ k = 4 ∨ k = 5) (hx : x ≠ []) : measureOf k x = x.length ↔ kB k x = true := by
  rcases hk with rfl | rfl | rfl | rfl | rfl
  · exact word_iff hx
  · exact num_iff hx
  · exact quoted_iff (.inl rfl) (Nat.le_refl _) hx pre_noQ.1
  · exact quoted_iff (.inr rfl) (by decide) hx pre_noQ.2.1
  · exact punct_iff hx

/-- No token of the kinds 1 to 5 holds a line's end. -/
theorem num_ten : numB 10 = false := by decide
theorem pieces_ten (q : UInt8) : ∀ (m : Nat) (t : List UInt8), t.length ≤ m → piecesB q t = true → (10 : UInt8) ∉ t := by
  intro m
  induction m with
  | zero => intro t ht _; rw [List.length_eq_zero_iff.1 (Nat.le_zero.1 ht)]; exact List.not_mem_nil
  | succ m ih =>
    intro t ht h
    cases t with
    | nil => exact List.not_mem_nil
    | cons c r =>
      simp only [List.length_cons] at ht
      rw [piecesB_eq] at h
      by_cases h1 : (c == q || c == 10) = true
      · rw [if_pos h1] at h; cases h
      · rw [if_neg h1] at h
        rw [Bool.or_eq_true, not_or] at h1
        have hc : c ≠ 10 := fun e => h1.2 (by simp [e])
        by_cases h2 : (c == 92) = true
        · rw [if_pos h2] at h
          cases r with
          | nil => cases h
          | cons d r' =>
            simp only at h
            by_cases h3 : (d == 10) = true
            · rw [if_pos h3] at h; cases h
            · rw [if_neg h3] at h
              simp only [List.length_cons] at ht
              have := ih r' (by omega) h
              intro hm
              rcases List.mem_cons.1 hm with e | hm
              · exact hc e.symm
              · rcases List.mem_cons.1 hm with e | hm
                · exact h3 (by simp [← e])
                · exact this hm
        · rw [if_neg h2] at h
          have := ih r (by omega) h
          intro hm
          rcases List.mem_cons.1 hm with e | hm
          · exact hc e.symm
          · exact this hm
theorem lit_shape {q : UInt8} {f : Nat} {x : List UInt8} : ∀ {ps : List (List UInt8)}, litB q f x ps = true → ∃ p ∈ ps, shapeB q x p = true
  | [], h => by cases h
  | p :: ps, h => by
    rw [litB] at h
    by_cases h1 : shapeB q x p = true
    · exact ⟨p, List.mem_cons_self, h1⟩
    · rw [if_neg h1] at h
      obtain ⟨p', h2, h3⟩ := lit_shape h
      exact ⟨p', List.mem_cons_of_mem _ h2, h3⟩
theorem lit_ten {q : UInt8} {f : Nat} {x : List UInt8} {ps : List (List UInt8)} (hq : q ≠ 10) (hps : ∀ p ∈ ps, ∀ c ∈ p, c ≠ 32 ∧ c ≠ 10) (h : litB q f x ps = true) : (10 : UInt8) ∉ x := by
  obtain ⟨p, hp, hs⟩ := lit_shape h
  obtain ⟨t, rfl, ht⟩ := shape_iff.1 hs
  intro hm
  rcases List.mem_append.1 hm with hm | hm
  · exact (hps p hp 10 hm).2 rfl
  · rcases List.mem_cons.1 hm with e | hm
    · exact hq e.symm
    · rcases List.mem_append.1 hm with hm | hm
      · exact pieces_ten q _ t (Nat.le_refl _) ht hm
      · rw [List.mem_singleton] at hm; exact hq hm.symm
theorem kB_ten {k : Nat} {x : List UInt8} (hk : k = 1 ∨ k = 2 ∨ k = 3 ∨ k = 4 ∨ k = 5) (hx : x ≠ []) (h : kB k x = true) : (10 : UInt8) ∉ x := by
  rcases hk with rfl | rfl | rfl | rfl | rfl
  · have h : wordB x = true := h
    cases x with
    | nil => exact absurd rfl hx
    | cons c r =>
      rw [wordB, Bool.and_eq_true, List.all_eq_true] at h
      intro hm
      rcases List.mem_cons.1 hm with e | hm
      · rw [← e] at h; exact absurd h.1 (by decide)
      · exact absurd (h.2 10 hm) (by decide)
  · intro hm
    have := numLen_all ((num_iff hx).2 h) hx 10 hm
    rw [num_ten] at this; cases this
  · exact lit_ten (by decide) pre_noQ.2.2.1 h
  · exact lit_ten (by decide) pre_noQ.2.2.2 h
  · have h : isPunctB x = true := h
    intro hm
    exact (puncts_stop _ (List.contains_iff_mem.1 h) 10 hm).2 rfl

def kinds5 : List Nat := [1, 2, 3, 4, 5]
theorem kinds5_or {k : Nat} (h : k ∈ kinds5) : k = 1 ∨ k = 2 ∨ k = 3 ∨ k = 4 ∨ k = 5 := by
  unfold kinds5 at h; simpa using h
/-- A text without a line's end: its kind is the first one that it is of. -/
theorem kindR_find {x : List UInt8} (hx : (10 : UInt8) ∉ x) : kindR x = (kinds5.find? (fun k => kB k x)).getD 0 := by
  unfold kindR kinds5
  rw [if_neg (fun h => hx (by rw [eq_of_beq h]; exact List.mem_singleton_self _))]
  simp only [List.find?, kB]
  cases wordB x <;> cases numF x <;> cases litB 39 1 x chPre <;> cases litB 34 0 x stPre <;> cases isPunctB x <;> rfl
theorem kB_len {k : Nat} {l : List UInt8} {n : Nat} (hk : k ∈ kinds5) (hn : 0 < n) (hnl : n ≤ l.length) (h : kB k (l.take n) = true) : n ≤ measureOf k l := by
  have hlen : (l.take n).length = n := by rw [List.length_take]; omega
  have hx : l.take n ≠ [] := fun e => by rw [e] at hlen; simp at hlen; omega
  have h2 := (kB_iff (kinds5_or hk) hx).2 h
  rw [hlen] at h2
  refine Nat.le_of_not_lt (fun h3 => ?_)
  rw [measure_take (Nat.le_of_lt h3)] at h2
  omega
theorem kB_at {k : Nat} {l : List UInt8} (hk : k ∈ kinds5) (h0 : 0 < measureOf k l) : kB k (l.take (measureOf k l)) = true := by
  have hle := measure_le k l
  have hlen : (l.take (measureOf k l)).length = measureOf k l := by rw [List.length_take]; omega
  have hx : l.take (measureOf k l) ≠ [] := fun e => by rw [e] at hlen; simp at hlen; omega
  rw [← kB_iff (kinds5_or hk) hx, measure_take (Nat.le_refl _), hlen]
theorem run_ten : ∀ {l : List UInt8} {n : Nat}, (10 : UInt8) ∉ l.take n → n ≤ l.length → n ≤ runLen notNl l
  | [], n, _, h => h
  | c :: r, 0, _, _ => Nat.zero_le _
  | c :: r, n + 1, h, hl => by
    rw [List.take_succ_cons, List.mem_cons, not_or] at h
    rw [runLen, if_pos (by unfold notNl; have : (c == 10) = false := by simpa using fun e => h.1 e.symm
                           rw [this]; rfl)]
    have := run_ten h.2 (by simpa using hl)
    omega
theorem ten_run : ∀ {l : List UInt8} {n : Nat}, n ≤ runLen notNl l → (10 : UInt8) ∉ l.take n
  | [], n, _ => by simp
  | c :: r, 0, _ => by simp
  | c :: r, n + 1, h => by
    rw [runLen] at h
    by_cases hc : notNl c = true
    · rw [if_pos hc] at h
      rw [List.take_succ_cons, List.mem_cons, not_or]
      refine ⟨fun e => ?_, ten_run (by omega)⟩
      rw [← e] at hc; exact absurd hc (by decide)
    · rw [if_neg hc] at h; omega

theorem fold_eq (l : List UInt8) : ∀ (ks : List Nat) (a : Nat × Nat), ks.foldl (better l) a = a ∨ a.2 < (ks.foldl (better l) a).2
  | [], _ => .inl rfl
  | k :: ks, a => by
    rw [List.foldl_cons]
    have h0 := better_ge l a k
    rcases fold_eq l ks (better l a k) with h | h
    · rw [h]
      unfold better
      split
      · rename_i h2; exact .inr h2
      · exact .inl rfl
    · exact .inr (by omega)
/-- The fold over the measures: its second part is the greatest, its first the first kind that has it. -/
theorem fold_find (l : List UInt8) : ∀ (ks : List Nat) (a : Nat × Nat), a.2 < (ks.foldl (better l) a).2 → ks.find? (fun k => measureOf k l == (ks.foldl (better l) a).2) = some (ks.foldl (better l) a).1
  | [], a, h => absurd h (Nat.lt_irrefl _)
  | k :: ks, a, h => by
    rw [List.foldl_cons] at h ⊢
    have hge := (fold_ge l ks (better l a k)).1
    by_cases h1 : (better l a k).2 < (ks.foldl (better l) (better l a k)).2
    · have h2 : measureOf k l < (ks.foldl (better l) (better l a k)).2 := Nat.lt_of_le_of_lt (better_ge l a k).2 h1
      rw [List.find?_cons, show (measureOf k l == (ks.foldl (better l) (better l a k)).2) = false by simp; omega]
      exact fold_find l ks _ h1
    · have h3 : (ks.foldl (better l) (better l a k)) = better l a k := by
        rcases fold_eq l ks (better l a k) with h4 | h4
        · exact h4
        · exact absurd h4 h1
      rw [h3] at h ⊢
      have h5 : better l a k = (k, measureOf k l) := by
        unfold better at h ⊢
        split
        · rfl
        · rename_i h6; rw [if_neg h6] at h; exact absurd h (Nat.lt_irrefl _)
      rw [h5, List.find?_cons, beq_self_eq_true]

theorem find_congr' {p q : Nat → Bool} : ∀ {ks : List Nat}, (∀ k ∈ ks, p k = q k) → ks.find? p = ks.find? q
  | [], _ => rfl
  | k :: ks, h => by
    rw [List.find?_cons, List.find?_cons, h k List.mem_cons_self, find_congr' (fun j hj => h j (List.mem_cons_of_mem _ hj))]

/-- Downward, as long as nothing is a token. -/
theorem downK_skip {l : List UInt8} {m : Nat} : ∀ n, m ≤ n → (∀ j, m < j → j ≤ n → kindR (l.take j) = 0) → downK l n = downK l m
  | 0, h, _ => by rw [Nat.le_zero.1 h]
  | n + 1, h, hz => by
    by_cases e : m = n + 1
    · rw [e]
    · rw [downK, if_pos (hz (n + 1) (by omega) (Nat.le_refl _))]
      exact downK_skip n (by omega) (fun j h1 h2 => hz j h1 (by omega))

theorem longR_eq {l : List UInt8} (hl : l ≠ []) : longR l = longestOf l := by
  cases l with
  | nil => exact absurd rfl hl
  | cons c r =>
    by_cases hc : c = 10
    · subst hc
      rw [longest_tenS]
      unfold longR
      rw [if_pos]
      rw [runLen]; rfl
    · have hrn : 0 < runLen notNl (c :: r) := by
        have : (10 : UInt8) ∉ (c :: r).take 1 := by simpa using fun e : 10 = c => hc e.symm
        exact run_ten this (by simp)
      have h9 : measureOf 9 (c :: r) = 0 := by
        show nlLen (c :: r) = 0
        rw [nlLen, if_neg (by simpa using hc)]
      have hle := runLen_le' notNl (c :: r)
      generalize hL : c :: r = l at *
      have hfold : [1, 2, 3, 4, 5, 9].foldl (better l) (0, 0) = kinds5.foldl (better l) (0, 0) := by
        show better l (kinds5.foldl (better l) (0, 0)) 9 = _
        unfold better
        rw [h9, if_neg (by omega)]
      unfold longR longestOf
      rw [if_neg (by omega), hfold]
      obtain ⟨M, hM⟩ : ∃ M, (kinds5.foldl (better l) (0, 0)).2 = M := ⟨_, rfl⟩
      have hge := (fold_ge l kinds5 (0, 0)).2
      have hMl : M ≤ l.length := by rw [← hM]; exact fold_le l kinds5 (0, 0) (Nat.zero_le _)
      rw [hM] at hge
      have hzero : ∀ j, M < j → j ≤ runLen notNl l → kindR (l.take j) = 0 := by
        intro j h1 h2
        rw [kindR_find (ten_run h2)]
        rw [List.find?_eq_none.2]
        · rfl
        · intro k hk hkB
          have := kB_len hk (by omega) (by omega) hkB
          have := hge k hk
          omega
      by_cases h0 : M = 0
      · rw [downK_skip (m := 0) _ (Nat.zero_le _) (fun j h1 h2 => hzero j (by omega) h2)]
        simp only [hM, h0]
        rw [downK]
        cases hq : isQuote (l.headD 0) with
        | true =>
          simp only [if_true]
          rcases fold_mem l kinds5 (0, 0) with h | _
          · have h5 : kinds5.foldl (better l) (0, 0) = (0, 0) := by
              rcases fold_eq l kinds5 (0, 0) with h6 | h6
              · exact h6
              · rw [hM, h0] at h6; exact absurd h6 (Nat.lt_irrefl _)
            rw [h5]; rfl
          · have h5 : kinds5.foldl (better l) (0, 0) = (0, 0) := by
              rcases fold_eq l kinds5 (0, 0) with h6 | h6
              · exact h6
              · rw [hM, h0] at h6; exact absurd h6 (Nat.lt_irrefl _)
            rw [h5]; rfl
        | false => rfl
      · have hff := fold_find l kinds5 (0, 0) (by rw [hM]; show 0 < M; omega)
        rw [hM] at hff
        obtain ⟨K, hK⟩ : ∃ K, (kinds5.foldl (better l) (0, 0)).1 = K := ⟨_, rfl⟩
        rw [hK] at hff
        have hKm : K ∈ kinds5 := List.mem_of_find?_eq_some hff
        have hKM : measureOf K l = M := by have := List.find?_some hff; simpa using this
        have hpair : kinds5.foldl (better l) (0, 0) = (K, M) := Prod.ext hK hM
        have hMpos : 0 < measureOf K l := by omega
        have hkat := kB_at hKm hMpos
        rw [hKM] at hkat
        have hMt : l.take M ≠ [] := fun e => by
          have := congrArg List.length e
          rw [List.length_take, List.length_nil] at this; omega
        have hMr : M ≤ runLen notNl l := run_ten (kB_ten (kinds5_or hKm) hMt hkat) hMl
        have hkr : kindR (l.take M) = K := by
          rw [kindR_find (ten_run hMr), find_congr' (q := fun k => measureOf k l == M), hff]
          · rfl
          · intro k hk
            show kB k (l.take M) = (measureOf k l == M)
            rw [Bool.eq_iff_iff, beq_iff_eq]
            constructor
            · intro h
              have h7 := kB_len hk (by omega) hMl h
              have h8 := hge k hk
              omega
            · intro h
              have := kB_at (l := l) hk (by omega)
              rw [h] at this; exact this
        rw [downK_skip (m := M) _ hMr hzero, hpair]
        obtain ⟨m, rfl⟩ : ∃ m, M = m + 1 := ⟨M - 1, by omega⟩
        have hK0 : K ≠ 0 := by rcases kinds5_or hKm with rfl | rfl | rfl | rfl | rfl <;> decide
        rw [downK, hkr, if_neg hK0]
        simp

end Go.Proofs.YtaodjipnffgihaaGreat

namespace Go.Proofs.YtaodjipnffgihaaGreat
open Go.RowKit

theorem rii {a b c d : Int} (h : a = c) (h2 : b = d) : Ending.returned (.tuple #[.int .i64 a, .int .i64 b]) = .returned (.tuple #[.int .i64 c, .int .i64 d]) := by rw [h, h2]

set_option maxRecDepth 100000 in
set_option maxHeartbeats 2000000 in
theorem rlongest_any (s : ByteArray) (w : World) (hs : s.size ≤ 65536) (h0 : 0 < s.size) :
    Calls Tryz.prog 66 #[.string s] w fun e w' => e = .returned (.tuple #[.int .i64 ((longestOf s.data.toList).1 : Nat), .int .i64 ((longestOf s.data.toList).2 : Nat)]) ∧ Below w.heap.size w w' := by
  have HQ := Lib.hid (longR_eq (l := s.data.toList) (fun e => by have := congrArg List.length e; rw [size_list, List.length_nil] at this; omega))
  have hrl := runLen_le' notNl s.data.toList
  rw [size_list] at hrl
  go_enter Tryz.func66, Tryz.ntmps66
  go_wp2
  go_loop [4] (fun i => ∃ k : Nat, k ≤ s.size ∧ i = .int .i64 k ∧ runLen notNl s.data.toList = k + runLen notNl (s.data.toList.drop k)) (fun i => s.size - (intOf i).toNat)
  case atStart => exact ⟨0, Nat.zero_le _, rfl, by simp⟩
  case round =>
    obtain ⟨k, hk, rfl, he⟩ := hrel
    have HE0 := Lib.hid he; clear he
    by_cases hgo : ∃ h : k < s.size, s[k] ≠ 10
    · obtain ⟨hlt, h10⟩ := hgo
      have h4 : notNl s[k] = true := by unfold notNl; simp [h10]
      have HN := Lib.hid (HE0.out.trans (show _ = (k + 1) + runLen notNl (s.data.toList.drop (k + 1)) by rw [runLen_yes hlt h4]; omega))
      have b3 : ((s[k].toNat : Int) != 10) = true := by rw [bne_iff_ne]; exact fun h => h10 (u8_int.2 h)
      clear HE0 h10 h4
      go_wp2
      go_round
      case rel => exact ⟨k + 1, by omega, by go_num, HN.out⟩
      case measure => simp [intOf]; omega
    · have HK : Hid (runLen notNl s.data.toList = k) := Lib.hid (by
        rw [HE0.out]
        by_cases hlt : k < s.size
        · have h10 : s[k] = 10 := Classical.byContradiction (fun h => hgo ⟨hlt, h⟩)
          rw [runLen_no hlt (by rw [h10]; rfl)]; rfl
        · rw [runLen_end (by omega)]; rfl)
      have b3 : ∀ h : k < s.size, ((s[k].toNat : Int) != 10) = false := fun h => by
        have h10 : s[k] = 10 := Classical.byContradiction (fun h' => hgo ⟨h, h'⟩)
        rw [h10]; rfl
      clear HE0 hgo
      by_cases hlt : k < s.size
      · have b4 := b3 hlt
        clear b3
        have HR : Hid (runLen notNl s.data.toList = k) := HK
        clear HK
        by_cases hR : k = 0
        · have HN : Hid (longestOf s.data.toList = (9, 1)) := Lib.hid (by rw [← HQ.out]; unfold longR; rw [if_pos (by rw [HR.out]; exact hR)])
          subst hR
          clear HR
          go_wp2
          go_ret2
          exact ⟨rii (by rw [HN.out]; rfl) (by rw [HN.out]; rfl), Below.refl _ _⟩
        · have HN : Hid (longestOf s.data.toList = downK s.data.toList k) := Lib.hid (by rw [← HQ.out]; unfold longR; rw [if_neg (by rw [HR.out]; exact hR), HR.out])
          have b9 : ((k : Int) == 0) = false := beq_eq_false_iff_ne.2 (by omega)
          clear HQ HR
          go_wp2
          go_loopg [4] k (fun g i wx => ∃ j : Nat, j ≤ k ∧ i = .int .i64 j ∧ j = g ∧ Hid (longestOf s.data.toList = downK s.data.toList j) ∧ Below w.heap.size w wx)
          case atStart => exact ⟨k, Nat.le_refl _, rfl, rfl, HN, Below.refl _ _⟩
          case round =>
            obtain ⟨j, hj, rfl, rfl, HE, hbx⟩ := hrel
            cases j with
            | zero =>
              clear HN
              cases hq : isQuote s[0] with
              | true =>
                have HN2 : Hid (longestOf s.data.toList = (0, 0)) := Lib.hid (by
                  have hd := data_drop s 0 h0
                  rw [List.drop_zero] at hd
                  rw [HE.out, downK, if_pos (by rw [hd]; exact hq)])
                unfold isQuote at hq
                by_cases h39 : s[0] = 39
                · have e0 : ((s[0].toNat : Int) == 39) = true := by rw [h39]; rfl
                  clear HE hq h39
                  go_wp2
                  go_ret2
                  exact ⟨rii (by rw [HN2.out]; rfl) (by rw [HN2.out]; rfl), hbx⟩
                · have e0 : ((s[0].toNat : Int) == 39) = false := beq_eq_false_iff_ne.2 (fun h => h39 (u8_int.2 h))
                  have e1 : ((s[0].toNat : Int) == 34) = true := by
                    have : s[0] = 34 := by simpa [h39] using hq
                    rw [this]; rfl
                  clear HE hq h39
                  go_wp2
                  go_ret2
                  exact ⟨rii (by rw [HN2.out]; rfl) (by rw [HN2.out]; rfl), hbx⟩
              | false =>
                have HN2 : Hid (longestOf s.data.toList = (6, 1)) := Lib.hid (by
                  have hd := data_drop s 0 h0
                  rw [List.drop_zero] at hd
                  rw [HE.out, downK, if_neg (by rw [hd, List.headD_cons, hq]; decide)])
                unfold isQuote at hq
                rw [Bool.or_eq_false_iff] at hq
                have e0 : ((s[0].toNat : Int) == 39) = false := beq_eq_false_iff_ne.2 (fun h => (beq_eq_false_iff_ne.1 hq.1) (u8_int.2 h))
                have e1 : ((s[0].toNat : Int) == 34) = false := beq_eq_false_iff_ne.2 (fun h => (beq_eq_false_iff_ne.1 hq.2) (u8_int.2 h))
                clear HE hq
                go_wp2
                go_ret2
                exact ⟨rii (by rw [HN2.out]; rfl) (by rw [HN2.out]; rfl), hbx⟩
            | succ j =>
              have C : ∀ w' : World, Calls Tryz.prog 87 #[.string (s.extract 0 (j + 1))] w' fun e w'' => e = .returned (.int .i64 (kindR (s.data.toList.take (j + 1)) : Nat)) ∧ Below w'.heap.size w' w'' := fun w' => by
                have := rKind_any (s.extract 0 (j + 1)) w' (by rw [ByteArray.size_extract]; omega)
                rw [extract_list, List.drop_zero] at this
                exact this
              have HD : Hid (downK s.data.toList (j + 1) = if kindR (s.data.toList.take (j + 1)) = 0 then downK s.data.toList j else (kindR (s.data.toList.take (j + 1)), j + 1)) := Lib.hid rfl
              obtain ⟨K, hK⟩ : ∃ K, kindR (s.data.toList.take (j + 1)) = K := ⟨_, rfl⟩
              rw [hK] at C HD
              clear hK
              have j1 : (0 : Int) < (j : Int) + 1 := by omega
              have j2 : ((j : Int) + 1).toNat = j + 1 := by omega
              have j3 : (j : Int) + 1 ≤ (s.size : Int) := by omega
              have v1 : wrap64 ((j : Int) + 1 - 1) = (j : Int) := by rw [show (j : Int) + 1 - 1 = (j : Int) by omega]; exact IntWalk.wrap64_in _ (by omega)
              have v2 : (j : Int) + 1 - 1 = (j : Int) := by omega
              by_cases hK0 : K = 0
              · have HN3 : Hid (longestOf s.data.toList = downK s.data.toList j) := Lib.hid (by rw [HE.out, HD.out, if_pos hK0])
                subst hK0
                clear HE HD HN
                go_wp2_with fail
                refine (C _).mono ?_
                rintro e w1 ⟨rfl, hb1⟩
                go_wp2
                go_roundg j
                case rel => exact ⟨j, by omega, by go_num, rfl, HN3, hbx.trans (hb1.mono hbx.size)⟩
                case measure => omega
              · have HN3 : Hid (longestOf s.data.toList = (K, j + 1)) := Lib.hid (by rw [HE.out, HD.out, if_neg hK0])
                have k0 : (0 : Int) < (K : Int) := by omega
                clear HE HD HN
                go_wp2_with fail
                refine (C _).mono ?_
                rintro e w1 ⟨rfl, hb1⟩
                go_wp2
                go_ret2
                exact ⟨rii (by rw [HN3.out]) (by rw [HN3.out]; rfl), hbx.trans (hb1.mono hbx.size)⟩
      · clear b3
        have HR : Hid (runLen notNl s.data.toList = k) := HK
        clear HK
        by_cases hR : k = 0
        · exact absurd h0 (by omega)
        · have HN : Hid (longestOf s.data.toList = downK s.data.toList k) := Lib.hid (by rw [← HQ.out]; unfold longR; rw [if_neg (by rw [HR.out]; exact hR), HR.out])
          have b9 : ((k : Int) == 0) = false := beq_eq_false_iff_ne.2 (by omega)
          clear HQ HR
          go_wp2
          go_loopg [4] k (fun g i wx => ∃ j : Nat, j ≤ k ∧ i = .int .i64 j ∧ j = g ∧ Hid (longestOf s.data.toList = downK s.data.toList j) ∧ Below w.heap.size w wx)
          case atStart => exact ⟨k, Nat.le_refl _, rfl, rfl, HN, Below.refl _ _⟩
          case round =>
            obtain ⟨j, hj, rfl, rfl, HE, hbx⟩ := hrel
            cases j with
            | zero =>
              clear HN
              cases hq : isQuote s[0] with
              | true =>
                have HN2 : Hid (longestOf s.data.toList = (0, 0)) := Lib.hid (by
                  have hd := data_drop s 0 h0
                  rw [List.drop_zero] at hd
                  rw [HE.out, downK, if_pos (by rw [hd]; exact hq)])
                unfold isQuote at hq
                by_cases h39 : s[0] = 39
                · have e0 : ((s[0].toNat : Int) == 39) = true := by rw [h39]; rfl
                  clear HE hq h39
                  go_wp2
                  go_ret2
                  exact ⟨rii (by rw [HN2.out]; rfl) (by rw [HN2.out]; rfl), hbx⟩
                · have e0 : ((s[0].toNat : Int) == 39) = false := beq_eq_false_iff_ne.2 (fun h => h39 (u8_int.2 h))
                  have e1 : ((s[0].toNat : Int) == 34) = true := by
                    have : s[0] = 34 := by simpa [h39] using hq
                    rw [this]; rfl
                  clear HE hq h39
                  go_wp2
                  go_ret2
                  exact ⟨rii (by rw [HN2.out]; rfl) (by rw [HN2.out]; rfl), hbx⟩
              | false =>
                have HN2 : Hid (longestOf s.data.toList = (6, 1)) := Lib.hid (by
                  have hd := data_drop s 0 h0
                  rw [List.drop_zero] at hd
                  rw [HE.out, downK, if_neg (by rw [hd, List.headD_cons, hq]; decide)])
                unfold isQuote at hq
                rw [Bool.or_eq_false_iff] at hq
                have e0 : ((s[0].toNat : Int) == 39) = false := beq_eq_false_iff_ne.2 (fun h => (beq_eq_false_iff_ne.1 hq.1) (u8_int.2 h))
                have e1 : ((s[0].toNat : Int) == 34) = false := beq_eq_false_iff_ne.2 (fun h => (beq_eq_false_iff_ne.1 hq.2) (u8_int.2 h))
                clear HE hq
                go_wp2
                go_ret2
                exact ⟨rii (by rw [HN2.out]; rfl) (by rw [HN2.out]; rfl), hbx⟩
            | succ j =>
              have C : ∀ w' : World, Calls Tryz.prog 87 #[.string (s.extract 0 (j + 1))] w' fun e w'' => e = .returned (.int .i64 (kindR (s.data.toList.take (j + 1)) : Nat)) ∧ Below w'.heap.size w' w'' := fun w' => by
                have := rKind_any (s.extract 0 (j + 1)) w' (by rw [ByteArray.size_extract]; omega)
                rw [extract_list, List.drop_zero] at this
                exact this
              have HD : Hid (downK s.data.toList (j + 1) = if kindR (s.data.toList.take (j + 1)) = 0 then downK s.data.toList j else (kindR (s.data.toList.take (j + 1)), j + 1)) := Lib.hid rfl
              obtain ⟨K, hK⟩ : ∃ K, kindR (s.data.toList.take (j + 1)) = K := ⟨_, rfl⟩
              rw [hK] at C HD
              clear hK
              have j1 : (0 : Int) < (j : Int) + 1 := by omega
              have j2 : ((j : Int) + 1).toNat = j + 1 := by omega
              have j3 : (j : Int) + 1 ≤ (s.size : Int) := by omega
              have v1 : wrap64 ((j : Int) + 1 - 1) = (j : Int) := by rw [show (j : Int) + 1 - 1 = (j : Int) by omega]; exact IntWalk.wrap64_in _ (by omega)
              have v2 : (j : Int) + 1 - 1 = (j : Int) := by omega
              by_cases hK0 : K = 0
              · have HN3 : Hid (longestOf s.data.toList = downK s.data.toList j) := Lib.hid (by rw [HE.out, HD.out, if_pos hK0])
                subst hK0
                clear HE HD HN
                go_wp2_with fail
                refine (C _).mono ?_
                rintro e w1 ⟨rfl, hb1⟩
                go_wp2
                go_roundg j
                case rel => exact ⟨j, by omega, by go_num, rfl, HN3, hbx.trans (hb1.mono hbx.size)⟩
                case measure => omega
              · have HN3 : Hid (longestOf s.data.toList = (K, j + 1)) := Lib.hid (by rw [HE.out, HD.out, if_neg hK0])
                have k0 : (0 : Int) < (K : Int) := by omega
                clear HE HD HN
                go_wp2_with fail
                refine (C _).mono ?_
                rintro e w1 ⟨rfl, hb1⟩
                go_wp2
                go_ret2
                exact ⟨rii (by rw [HN3.out]) (by rw [HN3.out]; rfl), hbx.trans (hb1.mono hbx.size)⟩

end Go.Proofs.YtaodjipnffgihaaGreat
