/- How great a macro is. -/
import Derived.Test.YtaodjipnffgihaaTxE
import Derived.BigQuiet
import Derived.Deep.QuietTactic
namespace Go.Proofs.Ytaodjipnffgihaa
open Go.RowKit Go.Shelf

def capN (n : Nat) : Nat := min n 3000
def parN : List ByteArray → Nat
  | [] => 0
  | p :: r => 1 + capN p.size + parN r
def bodN : List Pz → Nat
  | [] => 0
  | p :: r => 1 + capN p.tx.size + p.ps.length + bodN r
theorem parN_snoc (l : List ByteArray) (p : ByteArray) : parN (l ++ [p]) = parN l + 1 + capN p.size := by
  induction l with
  | nil => simp [parN]
  | cons q r ih => rw [List.cons_append, parN, parN, ih]; omega
theorem bodN_snoc (l : List Pz) (p : Pz) : bodN (l ++ [p]) = bodN l + 1 + capN p.tx.size + p.ps.length := by
  induction l with
  | nil => simp [bodN]
  | cons q r ih => rw [List.cons_append, bodN, bodN, ih]; omega
theorem parN_take {l : List ByteArray} {k : Nat} {p : ByteArray} (h : l[k]? = some p) : parN (l.take (k + 1)) = parN (l.take k) + 1 + capN p.size := by
  rw [List.take_add_one, h]; exact parN_snoc _ _
theorem bodN_take {l : List Pz} {k : Nat} {p : Pz} (h : l[k]? = some p) : bodN (l.take (k + 1)) = bodN (l.take k) + 1 + capN p.tx.size + p.ps.length := by
  rw [List.take_add_one, h]; exact bodN_snoc _ _
theorem capN_le (n : Nat) : capN n ≤ 3000 := Nat.min_le_right _ _
theorem parN_le (l : List ByteArray) : ∀ k, parN (l.take k) ≤ 3001 * k
  | 0 => by simp [parN]
  | k + 1 => by
    cases h : l[k]? with
    | none =>
      rw [List.take_add_one, h]
      have := parN_le l k
      simp only [Option.toList, List.append_nil]; omega
    | some p =>
      rw [parN_take h]
      have := parN_le l k
      have := capN_le p.size
      omega
def greatN (m : Mz) : Nat := m.nm.size + parN (m.ps.take 300) + bodN (m.bs.take 300)
def greatM (m : Mz) : Bool := decide (2000 < greatN m) || decide (200 < m.ps.length) || decide (200 < m.bs.length)
theorem iv {a b : Int} (h : a = b) : Value.int .i64 a = .int .i64 b := by rw [h]
theorem rbG {a b : Bool} (h : a = b) : Ending.returned (.bool b) = .returned (.bool a) := by rw [h]
theorem gt3 {P B pn n : Nat} {b : Bool} (h : b = true ↔ (2000 < P + B ∨ 200 < pn ∨ 200 < n)) : b = (decide (2000 < P + B) || decide (200 < pn) || decide (200 < n)) := by
  rw [Bool.eq_iff_iff, h]; simp [or_assoc]
theorem great_no {m : Mz} (h : greatM m = false) : greatN m ≤ 2000 ∧ m.ps.length ≤ 200 ∧ m.bs.length ≤ 200 := by
  unfold greatM at h
  simp only [Bool.or_eq_false_iff, decide_eq_false_iff_not, Nat.not_lt] at h
  exact ⟨h.1.1, h.1.2, h.2⟩

theorem pars_len : ∀ (l : List ByteArray), parN l ≤ 2000 → (catS l).length + l.length ≤ parN l
  | [], _ => by simp [catS, parN]
  | p :: r, h => by
    rw [parN] at h ⊢
    have hp : capN p.size = p.size := by unfold capN at h ⊢; omega
    have := pars_len r (by omega)
    have e : (catS (p :: r)).length = p.size + (catS r).length := by
      simp only [catS, List.flatMap_cons, List.length_append]
      rw [size_list]
    rw [e, List.length_cons]
    omega
theorem bods_len : ∀ (l : List Pz) (i : Nat), bodN l ≤ 2000 → (bodyT i l).length ≤ bodN l
  | [], _, _ => by simp [bodyT, bodN]
  | p :: r, i, h => by
    rw [bodN] at h ⊢
    have hp : capN p.tx.size = p.tx.size := by unfold capN at h ⊢; omega
    have := bods_len r (i + 1) (by omega)
    rw [bodyT]
    simp only [List.length_append]
    rw [size_list]
    have h2 : (spB i p).length ≤ 1 := by unfold spB; split <;> simp
    omega
theorem bodN_le (l : List Pz) (hl : ∀ p ∈ l, p.ps.length ≤ 140737488355328) : ∀ k, bodN (l.take k) ≤ 140737488360000 * k
  | 0 => by simp [bodN]
  | k + 1 => by
    cases h : l[k]? with
    | none =>
      rw [List.take_add_one, h]
      have := bodN_le l hl k
      simp only [Option.toList, List.append_nil]; omega
    | some p =>
      rw [bodN_take h]
      have := bodN_le l hl k
      have := capN_le p.tx.size
      have := hl p (List.mem_of_getElem? h)
      omega

set_option maxRecDepth 100000 in
set_option maxHeartbeats 8000000 in
theorem great_any (m : Mz) (pa ba : Option Addr) (pn pc n bc : Nat) (w : World) (hpn : m.ps.length = pn) (hn : m.bs.length = n) (hnm : m.nm.size ≤ 281474976710656) (hp2 : pn ≤ 281474976710656) (hn2 : n ≤ 281474976710656) (hT : StrIn w pa m.ps) (hB : PzIn w ba m.bs) (hl : ∀ p ∈ m.bs, p.ps.length ≤ 140737488355328) :
    Calls Try.prog 19 #[.agg #[.string m.nm, .bool m.fn, .slice pa pn pc, .bool m.vr, .slice ba n bc]] w fun e w' => e = .returned (.bool (greatM m)) ∧ Below w.heap.size w w' := by
  have hb0 := below1 w (.cells #[.string m.nm, .bool m.fn, .slice pa pn pc, .bool m.vr, .slice ba n bc] 26)
  have hR0 := MzBox.new w (.string m.nm) (.bool m.fn) (.slice pa pn pc) (.bool m.vr) (.slice ba n bc)
  have hT0 := hT.below hb0
  have hB0 := hB.below hb0
  obtain ⟨y0, -, -, -, -, -, -, -, -, -⟩ := hR0.facts
  obtain ⟨w1, hw1⟩ : ∃ w1, w.alloc (.cells #[.string m.nm, .bool m.fn, .slice pa pn pc, .bool m.vr, .slice ba n bc] 26) = w1 := ⟨_, rfl⟩
  rw [hw1] at hb0 hR0 hT0 hB0
  have HT := Lib.hid hT0
  have HB := Lib.hid hB0
  have HPN := Lib.hid hpn
  have HN := Lib.hid hn
  have HL := Lib.hid hl
  obtain ⟨z0, z1, z2, z3, z4, -, -, -, -, -⟩ := hR0.facts
  clear hT hB hT0 hB0 hpn hn hl
  go_enter Try.func19, Try.ntmps19
  go_wp2
  skip
  try clear y0
  go_loopw [3, 4] (fun c i wx => ∃ k : Nat, k ≤ pn ∧ k ≤ 300 ∧ i = .int .i64 k ∧ c = .int .i64 (m.nm.size + parN (m.ps.take k) : Nat) ∧ w1 = wx) (fun _ i _ => pn - (intOf i).toNat)
  case atStart => exact ⟨0, Nat.zero_le _, Nat.zero_le _, rfl, rfl, rfl⟩
  case round =>
    obtain ⟨k, hk, hk3, rfl, rfl, hwx⟩ := hrel
    subst hwx
    by_cases hlt : k < pn
    · by_cases h3 : k < 300
      · obtain ⟨p, hp⟩ : ∃ p, m.ps[k]? = some p := ⟨_, List.getElem?_eq_getElem (by rw [HPN.out]; exact hlt)⟩
        obtain ⟨b, o, rfl, -, hst⟩ := HT.out (by rw [HPN.out]; omega)
        have c0 := hst k p hp
        have hN := parN_take hp
        have hle := parN_le m.ps k
        obtain ⟨N, hNk⟩ : ∃ N, m.nm.size + parN (m.ps.take k) = N := ⟨_, rfl⟩
        have hN2 : N ≤ 281474977710656 := by omega
        rw [hNk]
        have j0 : (0 : Int) ≤ (k : Int) := by omega
        have j1 : (k : Int) < (pn : Int) := by omega
        have j2 : ¬ (pn : Int) ≤ (k : Int) := by omega
        have j3 : (k : Int) < 300 := by omega
        clear hst hp
        go_wp2
        refine ⟨⟨k + 1, by omega, by omega, rfl, ?_, trivial⟩, by simp [intOf]; omega⟩
        rw [hN]
        unfold capN
        exact iv (by push_cast; omega)
      · have hex : m.ps.take k = m.ps.take 300 := by rw [show k = 300 by omega]
        have j1 : (k : Int) < (pn : Int) := by omega
        have j3 : ¬ (k : Int) < 300 := by omega
        rw [hex]
        clear hex
        obtain ⟨P, hP⟩ : ∃ P, m.nm.size + parN (m.ps.take 300) = P := ⟨_, rfl⟩
        have HP := Lib.hid hP
        have hP2 : P ≤ 281474977710656 := by
          have := parN_le m.ps 300; omega
        rw [hP]
        have G : Hid (greatM m = (decide (2000 < P + bodN (m.bs.take 300)) || decide (200 < pn) || decide (200 < n))) := Lib.hid (by
          unfold greatM greatN; rw [HP.out, HPN.out, HN.out])
        clear hP hlt h3
        go_wp2
        go_loopw [3, 5] (fun c i wx => ∃ k2 : Nat, k2 ≤ n ∧ k2 ≤ 300 ∧ i = .int .i64 k2 ∧ c = .int .i64 (P + bodN (m.bs.take k2) : Nat) ∧ ∃ q, wx = w1.drewN q) (fun _ i _ => n - (intOf i).toNat)
        case atStart => exact ⟨0, Nat.zero_le _, Nat.zero_le _, rfl, rfl, 0, rfl⟩
        case round =>
          obtain ⟨k2, hk2, hk23, rfl, rfl, q, rfl⟩ := hrel
          by_cases hlt2 : k2 < n
          · by_cases h32 : k2 < 300
            · obtain ⟨p, hp⟩ : ∃ p, m.bs[k2]? = some p := ⟨_, List.getElem?_eq_getElem (by rw [HN.out]; exact hlt2)⟩
              obtain ⟨b, o, rfl, -, hst⟩ := HB.out (by rw [HN.out]; omega)
              obtain ⟨-, c1, -, a3, x3, c3, -, -⟩ := hst k2 p hp
              have hN := bodN_take hp
              have hle := bodN_le m.bs HL.out k2
              have hpl := HL.out p (List.mem_of_getElem? hp)
              obtain ⟨N, hNk⟩ : ∃ N, P + bodN (m.bs.take k2) = N := ⟨_, rfl⟩
              have hN2 : N ≤ 42221246506598000000 / 100 := by omega
              rw [hNk]
              have j0 : (0 : Int) ≤ (k2 : Int) := by omega
              have j4 : (k2 : Int) < (n : Int) := by omega
              have j2 : ¬ (n : Int) ≤ (k2 : Int) := by omega
              have j5 : (k2 : Int) < 300 := by omega
              clear hst hp
              go_wp2
              go_big_quiet (fail)
              go_wp2
              refine ⟨⟨k2 + 1, by omega, by omega, rfl, ?_, _, rfl⟩, by simp [intOf]; omega⟩
              rw [hN]
              unfold capN
              exact iv (by push_cast; omega)
            · have hex2 : m.bs.take k2 = m.bs.take 300 := by rw [show k2 = 300 by omega]
              have j4 : (k2 : Int) < (n : Int) := by omega
              have j5 : ¬ (k2 : Int) < 300 := by omega
              rw [hex2]
              clear hex2
              go_wp2
              all_goals (
                go_ret
                exact ⟨rbG (G.out.trans (gt3 (by simp; omega)).symm), below_drewN hb0 q⟩)
          · have hex2 : m.bs.take k2 = m.bs.take 300 := by
              rw [List.take_of_length_le (by rw [HN.out]; omega), List.take_of_length_le (by rw [HN.out]; omega)]
            have j4 : ¬ (k2 : Int) < (n : Int) := by omega
            rw [hex2]
            clear hex2
            go_wp2
            all_goals (
              go_ret
              exact ⟨rbG (G.out.trans (gt3 (by simp; omega)).symm), below_drewN hb0 q⟩)
    · have hex : m.ps.take k = m.ps.take 300 := by
        rw [List.take_of_length_le (by rw [HPN.out]; omega), List.take_of_length_le (by rw [HPN.out]; omega)]
      have j1 : ¬ (k : Int) < (pn : Int) := by omega
      rw [hex]
      clear hex
      obtain ⟨P, hP⟩ : ∃ P, m.nm.size + parN (m.ps.take 300) = P := ⟨_, rfl⟩
      have HP := Lib.hid hP
      have hP2 : P ≤ 281474977710656 := by
        have := parN_le m.ps 300; omega
      rw [hP]
      have G : Hid (greatM m = (decide (2000 < P + bodN (m.bs.take 300)) || decide (200 < pn) || decide (200 < n))) := Lib.hid (by
        unfold greatM greatN; rw [HP.out, HPN.out, HN.out])
      clear hP hlt
      go_wp2
      go_loopw [3, 5] (fun c i wx => ∃ k2 : Nat, k2 ≤ n ∧ k2 ≤ 300 ∧ i = .int .i64 k2 ∧ c = .int .i64 (P + bodN (m.bs.take k2) : Nat) ∧ ∃ q, wx = w1.drewN q) (fun _ i _ => n - (intOf i).toNat)
      case atStart => exact ⟨0, Nat.zero_le _, Nat.zero_le _, rfl, rfl, 0, rfl⟩
      case round =>
        obtain ⟨k2, hk2, hk23, rfl, rfl, q, rfl⟩ := hrel
        by_cases hlt2 : k2 < n
        · by_cases h32 : k2 < 300
          · obtain ⟨p, hp⟩ : ∃ p, m.bs[k2]? = some p := ⟨_, List.getElem?_eq_getElem (by rw [HN.out]; exact hlt2)⟩
            obtain ⟨b, o, rfl, -, hst⟩ := HB.out (by rw [HN.out]; omega)
            obtain ⟨-, c1, -, a3, x3, c3, -, -⟩ := hst k2 p hp
            have hN := bodN_take hp
            have hle := bodN_le m.bs HL.out k2
            have hpl := HL.out p (List.mem_of_getElem? hp)
            obtain ⟨N, hNk⟩ : ∃ N, P + bodN (m.bs.take k2) = N := ⟨_, rfl⟩
            have hN2 : N ≤ 42221246506598000000 / 100 := by omega
            rw [hNk]
            have j0 : (0 : Int) ≤ (k2 : Int) := by omega
            have j4 : (k2 : Int) < (n : Int) := by omega
            have j2 : ¬ (n : Int) ≤ (k2 : Int) := by omega
            have j5 : (k2 : Int) < 300 := by omega
            clear hst hp
            go_wp2
            go_big_quiet (fail)
            go_wp2
            refine ⟨⟨k2 + 1, by omega, by omega, rfl, ?_, _, rfl⟩, by simp [intOf]; omega⟩
            rw [hN]
            unfold capN
            exact iv (by push_cast; omega)
          · have hex2 : m.bs.take k2 = m.bs.take 300 := by rw [show k2 = 300 by omega]
            have j4 : (k2 : Int) < (n : Int) := by omega
            have j5 : ¬ (k2 : Int) < 300 := by omega
            rw [hex2]
            clear hex2
            go_wp2
            all_goals (
              go_ret
              exact ⟨rbG (G.out.trans (gt3 (by simp; omega)).symm), below_drewN hb0 q⟩)
        · have hex2 : m.bs.take k2 = m.bs.take 300 := by
            rw [List.take_of_length_le (by rw [HN.out]; omega), List.take_of_length_le (by rw [HN.out]; omega)]
          have j4 : ¬ (k2 : Int) < (n : Int) := by omega
          rw [hex2]
          clear hex2
          go_wp2
          all_goals (
            go_ret
            exact ⟨rbG (G.out.trans (gt3 (by simp; omega)).symm), below_drewN hb0 q⟩)

theorem comma_len (l : List ByteArray) : (catS (commaS l)).length ≤ (catS l).length + l.length := by
  cases l with
  | nil => simp [commaS, catS]
  | cons p r =>
    have h : ∀ r : List ByteArray, (catS (r.flatMap (fun q => [comA, q]))).length = (catS r).length + r.length := by
      intro r
      induction r with
      | nil => rfl
      | cons q r ih =>
        have e : (q :: r).flatMap (fun q => [comA, q]) = [comA, q] ++ r.flatMap (fun q => [comA, q]) := by simp
        rw [e, catS_append, List.length_append, ih]
        have e2 : catS (q :: r) = q.data.toList ++ catS r := by simp [catS]
        have e3 : catS [comA, q] = comA.data.toList ++ q.data.toList := by simp [catS]
        have e4 : comA.data.toList.length = 1 := rfl
        rw [e2, e3, List.length_append, List.length_append, List.length_cons, e4]
        omega
    have e : commaS (p :: r) = [p] ++ r.flatMap (fun q => [comA, q]) := by simp [commaS]
    have e2 : catS (p :: r) = catS [p] ++ catS r := by rw [← catS_append]; rfl
    rw [e, catS_append, e2, List.length_append, List.length_append, h, List.length_cons]
    omega
theorem pars_cat (m : Mz) : (catS (parsS m)).length ≤ (catS m.ps).length + m.ps.length + 4 := by
  have h := comma_len m.ps
  have e1 : (catS [dotA]).length = 3 := rfl
  have e2 : (catS [comA]).length = 1 := rfl
  unfold parsS
  split
  · split
    · omega
    · rw [catS_append, catS_append, List.length_append, List.length_append, e1, e2]; omega
  · omega
theorem great_line {m : Mz} (h : greatM m = false) : (lineS m).length ≤ 65536 ∧ m.ps.length ≤ 400 ∧ m.bs.length ≤ 1000 := by
  obtain ⟨h1, h2, h3⟩ := great_no h
  unfold greatN at h1
  rw [List.take_of_length_le (by omega), List.take_of_length_le (by omega)] at h1
  have h4 := pars_len m.ps (by omega)
  have h5 := bods_len m.bs 0 (by omega)
  have h6 := pars_cat m
  have e1 : (catS [defT, m.nm]).length = 8 + m.nm.size := by
    have : catS [defT, m.nm] = defT.data.toList ++ m.nm.data.toList := by simp [catS]
    rw [this, List.length_append, size_list]; rfl
  have e2 : (catS [(⟨#[40]⟩ : ByteArray)]).length = 1 := rfl
  have e3 : (catS [(⟨#[41]⟩ : ByteArray)]).length = 1 := rfl
  have h7 : (headT m).length ≤ 8 + m.nm.size + (1 + (catS (parsS m)).length + 1) := by
    unfold headT
    split
    · simp only [List.length_append, e1, e2, e3]; omega
    · simp only [List.length_append, e1, List.length_nil]; omega
  refine ⟨?_, by omega, by omega⟩
  unfold lineS
  simp only [List.length_append, List.length_singleton]
  omega

end Go.Proofs.Ytaodjipnffgihaa
