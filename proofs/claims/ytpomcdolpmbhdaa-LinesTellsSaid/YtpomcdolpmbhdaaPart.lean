/- phys.charAt, partAt, end. -/
import Derived.Test.YtpomcdolpmbhdaaTri
namespace Go.Proofs.Ytpomcdolpmbhdaa
open Go.RowKit

theorem charN_hit {l : List UInt8} (h : isTri l = true) : charN l = 3 := by unfold charN; rw [h]; rfl
theorem charN_miss {l : List UInt8} (h : isTri l = false) : charN l = 1 := by unfold charN; rw [h]; rfl
theorem charB_hit {l : List UInt8} (h : isTri l = true) : charB l = triOf l := by unfold charB; rw [h]; rfl
theorem charB_miss {s : ByteArray} {k : Nat} (hk : k < s.size) (h : isTri (s.data.toList.drop k) = false) : charB (s.data.toList.drop k) = s[k] := by
  unfold charB; rw [h, data_drop s k hk]; rfl

set_option maxHeartbeats 400000 in
/-- phys.charAt AT EVERY TEXT AND PLACE IN IT. -/
theorem charAt_any (s : ByteArray) (k : Nat) (w : World) (hs : s.size ≤ 65536) (hk : k < s.size) :
    Calls Try.prog 67 #[.string s, .int .i64 k] w fun e w' =>
      e = .returned (.agg #[.int .u8 (charB (s.data.toList.drop k)).toNat, .int .i64 k, .int .i64 (charN (s.data.toList.drop k))]) ∧
      w' = w.alloc (.cells #[.int .u8 (charB (s.data.toList.drop k)).toNat, .int .i64 k, .int .i64 (charN (s.data.toList.drop k))] 70) := by
  have he := extract_end s k
  have HE := Lib.hid he; clear he
  have hx : (s.extract k s.size).size ≤ maxLen := by rw [ByteArray.size_extract]; unfold maxLen; omega
  go_enter Try.func67, Try.ntmps67
  go_wp2_with (go_at_call 73; refine (trigraph_any _ _ hx).mono ?_; rintro e w' ⟨rfl, rfl⟩; rw [HE.out])
  · have ht : isTri (s.data.toList.drop k) = true := by assumption
    rw [charB_hit ht, charN_hit ht]
    exact bodyPost_ret (v := .agg #[.int .u8 (triOf (s.data.toList.drop k)).toNat, .int .i64 k, .int .i64 (3 : Nat)]) (by simp [results, Try.results67, go_sem]) rfl ⟨rfl, rfl⟩
  · have ht : isTri (s.data.toList.drop k) = false := by assumption
    rw [charB_miss hk ht, charN_miss ht]
    exact bodyPost_ret (v := .agg #[.int .u8 s[k].toNat, .int .i64 k, .int .i64 (1 : Nat)]) (by simp [results, Try.results67, go_sem]) rfl ⟨rfl, rfl⟩

/-- A part as a value. -/
def Part.val (p : Part) : Value := .agg #[.int .u8 p.b.toNat, .int .i64 p.at', .int .i64 p.n, .bool p.sp]

theorem below1 (w : World) (o1 : Obj) : Below w.heap.size w (w.alloc o1) := (Below.refl _ _).alloc (Nat.le_refl _) _
theorem below2 (w : World) (o1 o2 : Obj) : Below w.heap.size w ((w.alloc o1).alloc o2) := (below1 w o1).alloc (by simp) _
theorem below3 (w : World) (o1 o2 o3 : Obj) : Below w.heap.size w (((w.alloc o1).alloc o2).alloc o3) := (below2 w o1 o2).alloc (by simp; omega) _

section
variable {s : ByteArray} {k : Nat}
theorem head_data (h : k + charN (s.data.toList.drop k) < s.size) : ((s.data.toList.drop k).drop (charN (s.data.toList.drop k))).head? = some s[k + charN (s.data.toList.drop k)] := by
  rw [head_drop, drop_get _ h]

theorem val_splice (hb : ((charB (s.data.toList.drop k)).toNat : Int) = 92) (hl : (k : Int) + (charN (s.data.toList.drop k) : Nat) < s.size) (h0 : ((s[k + charN (s.data.toList.drop k)].toNat : Int) == 10) = true) :
    (partAt s.data.toList k).val = .agg #[.int .u8 0, .int .i64 k, .int .i64 ((charN (s.data.toList.drop k) : Nat) + 1), .bool true] := by
  have hs : isSplice (s.data.toList.drop k) = true := by
    simp only [isSplice, Bool.and_eq_true, beq_iff_eq]
    exact ⟨UInt8.toNat_inj.1 (by simp; omega), by rw [head_data (by omega)]; exact congrArg some (eq_u8 10 h0)⟩
  simp [Part.val, partAt, partB, partN, hs]

theorem val_char (hs : isSplice (s.data.toList.drop k) = false) :
    (partAt s.data.toList k).val = .agg #[.int .u8 (charB (s.data.toList.drop k)).toNat, .int .i64 k, .int .i64 (charN (s.data.toList.drop k) : Nat), .bool false] := by
  simp [Part.val, partAt, partB, partN, hs]

theorem no_splice1 (hb : ¬ ((charB (s.data.toList.drop k)).toNat : Int) = 92) : isSplice (s.data.toList.drop k) = false := by
  cases h : isSplice (s.data.toList.drop k) with
  | false => rfl
  | true =>
    simp only [isSplice, Bool.and_eq_true, beq_iff_eq] at h
    rw [h.1] at hb; exact absurd rfl hb
theorem no_splice2 (hl : (s.size : Int) ≤ k + (charN (s.data.toList.drop k) : Nat)) : isSplice (s.data.toList.drop k) = false := by
  cases h : isSplice (s.data.toList.drop k) with
  | false => rfl
  | true =>
    simp only [isSplice, Bool.and_eq_true, beq_iff_eq] at h
    have h2 := h.2
    rw [head_drop, drop_none _ (by omega)] at h2
    cases h2
theorem no_splice3 (hl : (k : Int) + (charN (s.data.toList.drop k) : Nat) < s.size) (h0 : ((s[k + charN (s.data.toList.drop k)].toNat : Int) == 10) = false) : isSplice (s.data.toList.drop k) = false := by
  cases h : isSplice (s.data.toList.drop k) with
  | false => rfl
  | true =>
    simp only [isSplice, Bool.and_eq_true, beq_iff_eq] at h
    have h2 := h.2
    rw [head_data (by omega)] at h2
    simp only [Option.some.injEq] at h2
    rw [h2] at h0; exact absurd h0 (by decide)
end

set_option maxHeartbeats 1000000 in
/-- phys.partAt AT EVERY TEXT AND PLACE IN IT. -/
theorem partAt_any (s : ByteArray) (k : Nat) (w : World) (hs : s.size ≤ 65536) (hk : k < s.size) :
    Calls Try.prog 59 #[.string s, .int .i64 k] w fun e w' => e = .returned (partAt s.data.toList k).val ∧ Below w.heap.size w w' := by
  have hn : charN (s.data.toList.drop k) ≤ 3 := by unfold charN; split <;> omega
  go_enter Try.func59, Try.ntmps59
  go_wp2_with (go_at_call 67; refine (charAt_any _ _ _ hs hk).mono ?_; rintro e w' ⟨rfl, rfl⟩)
  · have hb : ((charB (s.data.toList.drop k)).toNat : Int) = 92 := by assumption
    have hl : (k : Int) + (charN (s.data.toList.drop k) : Nat) < s.size := by assumption
    have h0 : ((s[k + charN (s.data.toList.drop k)].toNat : Int) == 10) = true := by assumption
    refine bodyPost_ret (v := .agg #[.int .u8 0, .int .i64 k, .int .i64 ((charN (s.data.toList.drop k) : Nat) + 1), .bool true]) (by simp [results, Try.results59, go_sem]) rfl ⟨?_, below3 _ _ _ _⟩
    rw [val_splice hb hl h0]
  · have hb : ((charB (s.data.toList.drop k)).toNat : Int) = 92 := by assumption
    have hl : (k : Int) + (charN (s.data.toList.drop k) : Nat) < s.size := by assumption
    have h0 : ((s[k + charN (s.data.toList.drop k)].toNat : Int) == 10) = false := by assumption
    refine bodyPost_ret (v := .agg #[.int .u8 92, .int .i64 k, .int .i64 (charN (s.data.toList.drop k) : Nat), .bool false]) (by simp [results, Try.results59, go_sem]) rfl ⟨?_, below3 _ _ _ _⟩
    rw [val_char (no_splice3 hl h0), hb]
  · have hb : ((charB (s.data.toList.drop k)).toNat : Int) = 92 := by assumption
    have hl : (s.size : Int) ≤ k + (charN (s.data.toList.drop k) : Nat) := by assumption
    refine bodyPost_ret (v := .agg #[.int .u8 92, .int .i64 k, .int .i64 (charN (s.data.toList.drop k) : Nat), .bool false]) (by simp [results, Try.results59, go_sem]) rfl ⟨?_, below3 _ _ _ _⟩
    rw [val_char (no_splice2 hl), hb]
  · have hb : ¬ ((charB (s.data.toList.drop k)).toNat : Int) = 92 := by assumption
    refine bodyPost_ret (v := .agg #[.int .u8 (charB (s.data.toList.drop k)).toNat, .int .i64 k, .int .i64 (charN (s.data.toList.drop k) : Nat), .bool false]) (by simp [results, Try.results59, go_sem]) rfl ⟨?_, below3 _ _ _ _⟩
    rw [val_char (no_splice1 hb)]

set_option maxHeartbeats 400000 in
/-- (phys.part).end. -/
theorem end_any (p : Part) (w : World) (h : p.at' + p.n ≤ 1000000) :
    Calls Try.prog 60 #[p.val] w fun e w' => e = .returned (.int .i64 (p.at' + p.n : Nat)) ∧ w' = w.alloc (.cells #[.int .u8 p.b.toNat, .int .i64 p.at', .int .i64 p.n, .bool p.sp] 86) := by
  unfold Part.val
  go_enter Try.func60, Try.ntmps60
  go_wp2
  go_ret
  exact ⟨by simp, rfl⟩

end Go.Proofs.Ytpomcdolpmbhdaa
