/- The document's answer: a text's kind. -/
import Derived.Test.YtenmapahigbbeaaRefL
import Derived.Test.YtenmapahigbbeaaRefQ
import Derived.Test.YtenmapahigbbeaaLong
import Derived.WalkSmall
namespace Go.Proofs.Ytenmapahigbbeaa
open Go.RowKit

/-- The kind of a text that is a token of the kinds 1 to 5 or 9; 0: it is none. -/
def kindR (x : List UInt8) : Nat :=
  if x == [10] then 9 else if wordB x then 1 else if numF x then 2 else if litB 39 1 x chPre then 3 else if litB 34 0 x stPre then 4 else if isPunctB x then 5 else 0

theorem chB4_get : ∀ (j : Nat) T, chB4[j]? = some T → (#[Value.string ⟨#[]⟩, .string ⟨#[117]⟩, .string ⟨#[85]⟩, .string ⟨#[76]⟩] : Array Value)[j]? = some (.string T) := by
  intro j T h
  match j, h with
  | 0, h => cases h; rfl
  | 1, h => cases h; rfl
  | 2, h => cases h; rfl
  | 3, h => cases h; rfl
  | j + 4, h => simp [chB4] at h
theorem stB5_get : ∀ (j : Nat) T, stB5[j]? = some T → (#[Value.string ⟨#[]⟩, .string ⟨#[117, 56]⟩, .string ⟨#[117]⟩, .string ⟨#[85]⟩, .string ⟨#[76]⟩] : Array Value)[j]? = some (.string T) := by
  intro j T h
  match j, h with
  | 0, h => cases h; rfl
  | 1, h => cases h; rfl
  | 2, h => cases h; rfl
  | 3, h => cases h; rfl
  | 4, h => cases h; rfl
  | j + 5, h => simp [stB5] at h

theorem lit3 (s : ByteArray) (w : World) (hs : s.size ≤ 2000) :
    Calls Try.prog 79 #[.string s, .int .u8 39, .slice (some ⟨w.heap.size, 0, none⟩) 4 4] (w.alloc (.cells #[.string ⟨#[]⟩, .string ⟨#[117]⟩, .string ⟨#[85]⟩, .string ⟨#[76]⟩] 9)) fun e w' => e = .returned (.bool (litB 39 1 s.data.toList chPre)) ∧ Below w.heap.size w w' :=
  (rIsLiteral_any s 39 1 chB4 w.heap.size 4 _ (by unfold maxLen; omega) (.inl ⟨rfl, rfl⟩) rfl (by decide) (fun j T h => mcells j _ (chB4_get j T h)) (by decide)).mono (by rintro e w' ⟨rfl, m, rfl⟩; exact ⟨rfl, below_drewN ((Below.refl _ _).alloc (Nat.le_refl _) _) _⟩)
theorem lit4 (s : ByteArray) (w : World) (hs : s.size ≤ 2000) :
    Calls Try.prog 79 #[.string s, .int .u8 34, .slice (some ⟨w.heap.size, 0, none⟩) 5 5] (w.alloc (.cells #[.string ⟨#[]⟩, .string ⟨#[117, 56]⟩, .string ⟨#[117]⟩, .string ⟨#[85]⟩, .string ⟨#[76]⟩] 9)) fun e w' => e = .returned (.bool (litB 34 0 s.data.toList stPre)) ∧ Below w.heap.size w w' :=
  (rIsLiteral_any s 34 0 stB5 w.heap.size 5 _ (by unfold maxLen; omega) (.inr ⟨rfl, rfl⟩) rfl (by decide) (fun j T h => mcells j _ (stB5_get j T h)) (by decide)).mono (by rintro e w' ⟨rfl, m, rfl⟩; exact ⟨rfl, below_drewN ((Below.refl _ _).alloc (Nat.le_refl _) _) _⟩)

set_option maxRecDepth 100000 in
set_option maxHeartbeats 1000000 in
theorem rKind_any (s : ByteArray) (w : World) (hs : s.size ≤ 2000) :
    Calls Try.prog 73 #[.string s] w fun e w' => e = .returned (.int .i64 (kindR s.data.toList : Nat)) ∧ Below w.heap.size w w' := by
  have hsm : s.size ≤ maxLen := by unfold maxLen; omega
  have CW := fun w => rIsWord_any s w hsm
  have CN := fun w => rIsNumber_any _ s (Nat.le_refl _) w hsm
  have C3 := fun w => lit3 s w hs
  have C4 := fun w => lit4 s w hs
  have C5 := fun w => rIsPunct_any s w hs
  have HK : Hid (kindR s.data.toList = if (s.toList == [10]) = true then 9 else if wordB s.data.toList then 1 else if numF s.data.toList then 2 else if litB 39 1 s.data.toList chPre then 3 else if litB 34 0 s.data.toList stPre then 4 else if isPunctB s.data.toList then 5 else 0) := Lib.hid (by rw [ByteArray.toList_eq]; rfl)
  generalize kindR s.data.toList = K at HK ⊢
  generalize wordB s.data.toList = c1 at HK CW
  generalize numF s.data.toList = c2 at HK CN
  generalize litB 39 1 s.data.toList chPre = c3 at HK C3
  generalize litB 34 0 s.data.toList stPre = c4 at HK C4
  generalize isPunctB s.data.toList = c5 at HK C5
  cases h0 : (s.toList == [10])
  · cases c1
    · cases c2
      · cases c3
        · cases c4
          · cases c5
            · have HK2 : Hid (K = 0) := Lib.hid (by rw [HK.out]; simp [h0])
              clear HK
              go_enter Try.func73, Try.ntmps73
              go_wp2_with fail
              refine (CW _).mono ?_
              rintro e w' ⟨rfl, rfl⟩
              go_wp2_with fail
              refine (CN _).mono ?_
              rintro e w' ⟨rfl, rfl⟩
              go_wp2_with fail
              refine (C3 _).mono ?_
              rintro e w3 ⟨rfl, b3⟩
              go_wp2_with fail
              refine (C4 _).mono ?_
              rintro e w4 ⟨rfl, b4⟩
              go_wp2_with fail
              refine (C5 _).mono ?_
              rintro e w' ⟨rfl, rfl⟩
              go_wp2
              go_ret
              exact ⟨ri (by rw [HK2.out]; rfl), b3.trans (b4.mono b3.size)⟩
            · have HK2 : Hid (K = 5) := Lib.hid (by rw [HK.out]; simp [h0])
              clear HK
              go_enter Try.func73, Try.ntmps73
              go_wp2_with fail
              refine (CW _).mono ?_
              rintro e w' ⟨rfl, rfl⟩
              go_wp2_with fail
              refine (CN _).mono ?_
              rintro e w' ⟨rfl, rfl⟩
              go_wp2_with fail
              refine (C3 _).mono ?_
              rintro e w3 ⟨rfl, b3⟩
              go_wp2_with fail
              refine (C4 _).mono ?_
              rintro e w4 ⟨rfl, b4⟩
              go_wp2_with fail
              refine (C5 _).mono ?_
              rintro e w' ⟨rfl, rfl⟩
              go_wp2
              go_ret
              exact ⟨ri (by rw [HK2.out]; rfl), b3.trans (b4.mono b3.size)⟩
          · have HK2 : Hid (K = 4) := Lib.hid (by rw [HK.out]; simp [h0])
            clear HK
            go_enter Try.func73, Try.ntmps73
            go_wp2_with fail
            refine (CW _).mono ?_
            rintro e w' ⟨rfl, rfl⟩
            go_wp2_with fail
            refine (CN _).mono ?_
            rintro e w' ⟨rfl, rfl⟩
            go_wp2_with fail
            refine (C3 _).mono ?_
            rintro e w3 ⟨rfl, b3⟩
            go_wp2_with fail
            refine (C4 _).mono ?_
            rintro e w4 ⟨rfl, b4⟩
            go_wp2
            go_ret
            exact ⟨ri (by rw [HK2.out]; rfl), b3.trans (b4.mono b3.size)⟩
        · have HK2 : Hid (K = 3) := Lib.hid (by rw [HK.out]; simp [h0])
          clear HK
          go_enter Try.func73, Try.ntmps73
          go_wp2_with fail
          refine (CW _).mono ?_
          rintro e w' ⟨rfl, rfl⟩
          go_wp2_with fail
          refine (CN _).mono ?_
          rintro e w' ⟨rfl, rfl⟩
          go_wp2_with fail
          refine (C3 _).mono ?_
          rintro e w3 ⟨rfl, b3⟩
          go_wp2
          go_ret
          exact ⟨ri (by rw [HK2.out]; rfl), b3⟩
      · have HK2 : Hid (K = 2) := Lib.hid (by rw [HK.out]; simp [h0])
        clear HK
        go_enter Try.func73, Try.ntmps73
        go_wp2_with fail
        refine (CW _).mono ?_
        rintro e w' ⟨rfl, rfl⟩
        go_wp2_with fail
        refine (CN _).mono ?_
        rintro e w' ⟨rfl, rfl⟩
        go_wp2
        go_ret
        exact ⟨ri (by rw [HK2.out]; rfl), Below.refl _ _⟩
    · have HK2 : Hid (K = 1) := Lib.hid (by rw [HK.out]; simp [h0])
      clear HK
      go_enter Try.func73, Try.ntmps73
      go_wp2_with fail
      refine (CW _).mono ?_
      rintro e w' ⟨rfl, rfl⟩
      go_wp2
      go_ret
      exact ⟨ri (by rw [HK2.out]; rfl), Below.refl _ _⟩
  · have HK2 : Hid (K = 9) := Lib.hid (by rw [HK.out]; simp [h0])
    clear HK
    go_enter Try.func73, Try.ntmps73
    go_wp2
    go_ret
    exact ⟨ri (by rw [HK2.out]; rfl), Below.refl _ _⟩

end Go.Proofs.Ytenmapahigbbeaa
