/- The statements' written: a number in a base. -/
import Derived.Test.YtenmapahigbbeaaCtA
import Derived.BigQuiet
import Derived.Deep.QuietTactic
namespace Go.Proofs.Ytenmapahigbbeaa
open Go.RowKit Go.Shelf

theorem drewN_add (w : World) (x k : Nat) : (w.drewN x).drewN k = w.drewN (x + k) := by simp [World.drewN, Nat.add_assoc]
theorem quiet_more {P : Program} {f : FuncId} {args : Array Value} {w : World} {x : Nat} {v : Value} (h : Calls P f args (w.drewN x) fun e w' => e = .returned v ∧ ∃ k, w' = (w.drewN x).drewN k) :
    Calls P f args (w.drewN x) fun e w'' => e = .returned v ∧ ∃ n, w'' = w.drewN n := h.mono fun _ _ ⟨he, k, hk⟩ => ⟨he, x + k, by rw [hk, drewN_add]⟩
def hexD : ByteArray := ⟨#[48, 49, 50, 51, 52, 53, 54, 55, 56, 57, 97, 98, 99, 100, 101, 102]⟩
theorem hexD_at : ∀ d < 16, (hexD.extract d (d + 1)).data.toList = [digC d] := by decide +kernel
/-- A number, written. -/
def writB (b f n : Nat) : ByteArray := ⟨(writC b f n).toArray⟩
theorem writB_list (b f n : Nat) : (writB b f n).data.toList = writC b f n := by simp [writB]
theorem hexD_one {d : Nat} (h : d < 16) : hexD.extract d (d + 1) = ⟨#[digC d]⟩ := by
  have h2 := hexD_at d h
  have : (hexD.extract d (d + 1)).data = #[digC d] := by
    apply Array.toList_inj.1
    rw [h2]
  cases he : hexD.extract d (d + 1)
  rw [he] at this
  simp only at this
  rw [this]
theorem writB_small {b f n : Nat} (h : n < b) : writB b f n = ⟨#[digC n]⟩ := by
  unfold writB
  cases f with
  | zero => rfl
  | succ f => rw [writC, if_pos h]
theorem writB_more {b f n : Nat} (h : ¬ n < b) : writB b (f + 1) n = writB b f (n / b) ++ ⟨#[digC (n % b)]⟩ := by
  unfold writB
  rw [writC, if_neg h]
  apply ByteArray.ext
  simp
theorem writC_len (b : Nat) : ∀ f n, (writC b f n).length ≤ f + 1
  | 0, n => by simp [writC]
  | f + 1, n => by
    rw [writC]
    split
    · simp
    · have := writC_len b f (n / b)
      rw [List.length_append, List.length_singleton]; omega
theorem writB_size (b f n : Nat) : (writB b f n).size ≤ f + 1 := by rw [← size_list, writB_list]; exact writC_len b f n
theorem rs1 {a b : ByteArray} (h : a = b) : Ending.returned (.string a) = .returned (.string b) := by rw [h]

set_option maxRecDepth 100000 in
set_option maxHeartbeats 2000000 in
theorem written_any (b : Nat) (hb : 2 ≤ b) (hb2 : b ≤ 16) : ∀ (f n : Nat) (w : World), f ≤ 64 → n < 2 ^ f → n ≤ 18446744073709551615 →
    Calls Try.prog 23 #[.int .u64 n, .int .u64 b] w fun e w' => e = .returned (.string (writB b f n)) ∧ ∃ k, w' = w.drewN k := by
  intro f
  induction f with
  | zero =>
    intro n w _ hn hm
    have h0 : n = 0 := by simpa using hn
    subst h0
    have HO := Lib.hid (writB_small (b := b) (f := 0) (n := 0) (by omega))
    have HX := Lib.hid (hexD_one (d := 0) (by decide))
    have i1 : (0 : Int) < (b : Int) := by omega
    clear hn hm
    go_enter Try.func23, Try.ntmps23
    go_wp2
    go_ret
    exact ⟨rs1 (by rw [HO.out, ← HX.out]; rfl), 0, rfl⟩
  | succ f ih =>
    intro n w hf hn hm
    by_cases hlt : n < b
    · have HO := Lib.hid (writB_small (b := b) (f := f + 1) hlt)
      have HX := Lib.hid (hexD_one (d := n) (by omega))
      have i1 : (n : Int) < (b : Int) := by omega
      have i2 : (n : Int) + 1 ≤ 16 := by omega
      have i3 : (n : Int) ≤ 16 := by omega
      have i4 : ((n : Int) + 1).toNat = n + 1 := by omega
      clear hn ih
      go_enter Try.func23, Try.ntmps23
      go_wp2
      go_ret
      exact ⟨rs1 (by rw [HO.out, ← HX.out]; rfl), 0, rfl⟩
    · have hdiv : n / b < 2 ^ f := by
        have h2 : n / b ≤ n / 2 := Nat.div_le_div_left hb (by decide)
        rw [Nat.pow_succ] at hn; omega
      have hdiv2 : n / b ≤ 18446744073709551615 := Nat.le_trans (Nat.div_le_self _ _) hm
      have hmod : n % b < 16 := Nat.lt_of_lt_of_le (Nat.mod_lt _ (by omega)) hb2
      have IH := fun w => ih (n / b) w (by omega) hdiv hdiv2
      have HO := Lib.hid (writB_more (b := b) (f := f) hlt)
      have HX := Lib.hid (hexD_one (d := n % b) hmod)
      have e1 : ((n : Int) / (b : Int)) = ((n / b : Nat) : Int) := by simp
      have e2 : ((n : Int) % (b : Int)) = ((n % b : Nat) : Int) := by simp
      obtain ⟨q, hq⟩ : ∃ q, n / b = q := ⟨_, rfl⟩
      obtain ⟨r, hr⟩ : ∃ r, n % b = r := ⟨_, rfl⟩
      rw [hq] at IH HO e1 hdiv2
      rw [hr] at HO HX e2 hmod
      obtain ⟨t, ht⟩ : ∃ t, writB b f q = t := ⟨_, rfl⟩
      have hts := writB_size b f q
      rw [ht] at IH HO hts
      have i1 : ¬ (n : Int) < (b : Int) := by omega
      have i0 : ((b : Int) == 0) = false := beq_eq_false_iff_ne.2 (by omega)
      have i2 : (r : Int) + 1 ≤ 16 := by omega
      have i4 : ((r : Int) + 1).toNat = r + 1 := by omega
      clear hn ih hdiv hq hr ht
      go_enter Try.func23, Try.ntmps23
      go_wp2
      go_big_quiet ((go_at_call 23; exact quiet_more (IH _)))
      go_wp2
      go_ret
      exact ⟨rs1 (by rw [HO.out, ← HX.out]; rfl), _, rfl⟩

end Go.Proofs.Ytenmapahigbbeaa
