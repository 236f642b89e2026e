/- scan.quoted: a literal with one of some prefixes. -/
import Derived.Test.YtaodjipnffgihaaRun
import Derived.Test.YtaodjipnffgihaaShelf
import Derived.Deep.LoopGhost
namespace Go.Proofs.Ytaodjipnffgihaa
open Go.RowKit

theorem bodyLen_cons (q c : UInt8) (r : List UInt8) : bodyLen q (c :: r) = if c == q then some 0 else if c == 10 then none else if c == 92 then
      (match r with | [] => none | d :: r' => if d == 10 then none else (bodyLen q r').map (· + 2))
    else (bodyLen q r).map (· + 1) := by
  cases r <;> simp [bodyLen]

/-- What is left of a body behind some of its pieces: none: it is not closed. -/
def bodyAt (q : UInt8) (r : ByteArray) (k : Nat) : Option Nat := bodyLen q (r.data.toList.drop k)

theorem body_end {q : UInt8} {r : ByteArray} {k : Nat} (h : r.size ≤ k) : bodyAt q r k = none := by
  unfold bodyAt; rw [List.drop_eq_nil_of_le (by rw [size_list]; exact h), bodyLen]
theorem body_hit {q : UInt8} {r : ByteArray} {k : Nat} (h : k < r.size) (h1 : (r[k] == q) = true) : bodyAt q r k = some 0 := by
  unfold bodyAt; rw [data_drop r k h, bodyLen_cons, if_pos h1]
theorem body_nl {q : UInt8} {r : ByteArray} {k : Nat} (h : k < r.size) (h1 : (r[k] == q) = false) (h2 : (r[k] == 10) = true) : bodyAt q r k = none := by
  unfold bodyAt; rw [data_drop r k h, bodyLen_cons, if_neg (by rw [h1]; decide), if_pos h2]
theorem body_step {q : UInt8} {r : ByteArray} {k : Nat} (h : k < r.size) (h1 : (r[k] == q) = false) (h2 : (r[k] == 10) = false) (h3 : (r[k] == 92) = false) : bodyAt q r k = (bodyAt q r (k + 1)).map (· + 1) := by
  unfold bodyAt; rw [data_drop r k h, bodyLen_cons, if_neg (by rw [h1]; decide), if_neg (by rw [h2]; decide), if_neg (by rw [h3]; decide)]
theorem body_esc0 {q : UInt8} {r : ByteArray} {k : Nat} (h : k < r.size) (h1 : (r[k] == q) = false) (h2 : (r[k] == 10) = false) (h3 : (r[k] == 92) = true) (h4 : r.size ≤ k + 1) : bodyAt q r k = none := by
  unfold bodyAt; rw [data_drop r k h, bodyLen_cons, if_neg (by rw [h1]; decide), if_neg (by rw [h2]; decide), if_pos h3, List.drop_eq_nil_of_le (by rw [size_list]; exact h4)]
theorem body_esc1 {q : UInt8} {r : ByteArray} {k : Nat} (h : k < r.size) (h1 : (r[k] == q) = false) (h2 : (r[k] == 10) = false) (h3 : (r[k] == 92) = true) (h4 : k + 1 < r.size) (h5 : (r[k + 1] == 10) = true) : bodyAt q r k = none := by
  unfold bodyAt; rw [data_drop r k h, bodyLen_cons, if_neg (by rw [h1]; decide), if_neg (by rw [h2]; decide), if_pos h3, data_drop r (k + 1) h4]
  simp only [h5, if_true]
theorem body_esc2 {q : UInt8} {r : ByteArray} {k : Nat} (h : k < r.size) (h1 : (r[k] == q) = false) (h2 : (r[k] == 10) = false) (h3 : (r[k] == 92) = true) (h4 : k + 1 < r.size) (h5 : (r[k + 1] == 10) = false) : bodyAt q r k = (bodyAt q r (k + 2)).map (· + 2) := by
  unfold bodyAt; rw [data_drop r k h, bodyLen_cons, if_neg (by rw [h1]; decide), if_neg (by rw [h2]; decide), if_pos h3, data_drop r (k + 1) h4]
  simp only [h5]
  rfl

/-- The literal behind one prefix: its length with the prefix; 0: there is none. -/
def oneLen (q : UInt8) (f : Nat) (l p : List UInt8) : Nat := if p.isPrefixOf l && litLen q f (l.drop p.length) != 0 then p.length + litLen q f (l.drop p.length) else 0
theorem quoted_cons (q : UInt8) (f : Nat) (l p : List UInt8) (ps : List (List UInt8)) : quotedLen q f l (p :: ps) = if oneLen q f l p = 0 then quotedLen q f l ps else oneLen q f l p := by
  rw [quotedLen, oneLen]
  by_cases h : (p.isPrefixOf l && litLen q f (l.drop p.length) != 0) = true
  · rw [if_pos h, if_pos h, if_neg]
    simp at h; omega
  · rw [if_neg h, if_neg h, if_pos rfl]

/-- What CutPrefix leaves of a text. -/
def cutOf (s p : ByteArray) : ByteArray := ⟨(Lib.trimPrefix s.data.toList p.data.toList).toArray⟩
theorem cutOf_list (s p : ByteArray) : (cutOf s p).data.toList = Lib.trimPrefix s.data.toList p.data.toList := by simp [cutOf]
theorem cutOf_size (s p : ByteArray) : (cutOf s p).size ≤ s.size := by
  rw [← size_list, ← size_list, cutOf_list, Lib.trimPrefix]
  split
  · rw [List.length_drop]; omega
  · exact Nat.le_refl _
theorem cut_any (s p : ByteArray) (w : World) : Calls Try.prog 103 #[.string s, .string p] w fun e w' => e = .returned (.tuple #[.string (cutOf s p), .bool (Lib.hasPrefix s.data.toList p.data.toList)]) ∧ w = w' :=
  (Try.strings_CutPrefix s p w).mono fun _ _ ⟨h, h2⟩ => ⟨h, h2.symm⟩

theorem one_nopre {q : UInt8} {f : Nat} {s p : ByteArray} (h : Lib.hasPrefix s.data.toList p.data.toList = false) : oneLen q f s.data.toList p.data.toList = 0 := by
  unfold oneLen
  rw [show p.data.toList.isPrefixOf s.data.toList = false from h]; rfl
theorem cutOf_pre {s p : ByteArray} (h : Lib.hasPrefix s.data.toList p.data.toList = true) : (cutOf s p).data.toList = s.data.toList.drop p.size := by
  rw [cutOf_list, Lib.trimPrefix, if_pos h]; rfl
theorem one_pre {q : UInt8} {f : Nat} {s p : ByteArray} (h : Lib.hasPrefix s.data.toList p.data.toList = true) :
    oneLen q f s.data.toList p.data.toList = if litLen q f (cutOf s p).data.toList = 0 then 0 else p.size + litLen q f (cutOf s p).data.toList := by
  rw [cutOf_pre h]
  unfold oneLen
  rw [show p.data.toList.isPrefixOf s.data.toList = true from h, Bool.true_and]
  rw [show p.data.toList.length = p.size from rfl]
  by_cases h2 : litLen q f (s.data.toList.drop p.size) = 0
  · rw [h2]; rfl
  · rw [if_neg h2, if_pos (by simpa using h2)]
theorem cutOf_add {s p : ByteArray} (h : Lib.hasPrefix s.data.toList p.data.toList = true) : (cutOf s p).size + p.size ≤ s.size := by
  have h2 : p.data.toList.length ≤ s.data.toList.length := (List.isPrefixOf_iff_prefix.1 h).length_le
  rw [← size_list (cutOf s p), cutOf_pre h, List.length_drop]
  rw [size_list, size_list] at h2
  rw [size_list]
  omega
theorem lit_empty {q : UInt8} {f : Nat} {r : ByteArray} (h : r.size = 0) : litLen q f r.data.toList = 0 := by
  rw [List.length_eq_zero_iff.1 (show r.data.toList.length = 0 from h), litLen]
theorem lit_not {q : UInt8} {f : Nat} {r : ByteArray} (h : 0 < r.size) (h2 : (r[0] == q) = false) : litLen q f r.data.toList = 0 := by
  have hd := data_drop r 0 h
  rw [List.drop_zero] at hd
  rw [hd, litLen, if_neg (by rw [h2]; decide)]
/-- A literal that begins with its quote. -/
def litOf (f : Nat) : Option Nat → Nat
  | some n => if n < f then 0 else n + 2
  | none => 0
theorem lit_yes {q : UInt8} {f : Nat} {r : ByteArray} (h : 0 < r.size) (h2 : (r[0] == q) = true) : litLen q f r.data.toList = litOf f (bodyAt q r 1) := by
  have hd := data_drop r 0 h
  rw [List.drop_zero] at hd
  unfold bodyAt
  rw [hd, litLen, if_pos h2, List.drop_succ_cons, List.drop_zero]
  unfold litOf
  generalize bodyLen q _ = o
  cases o <;> rfl

theorem mapAdd_zero (o : Option Nat) : o.map (· + 0) = o := by cases o <;> rfl
theorem mapAdd_add (o : Option Nat) (a b : Nat) : (o.map (· + a)).map (· + b) = o.map (· + (a + b)) := by
  cases o
  · rfl
  · simp; omega

set_option maxRecDepth 100000 in
set_option maxHeartbeats 2000000 in
theorem quoted_any (s : ByteArray) (q : UInt8) (f : Nat) (hf : f ≤ 1) (b : Nat) (ps : List ByteArray) (n : Nat) (hn : ps.length = n) (hn5 : n ≤ 5) (w : World) (hs : s.size ≤ maxLen)
    (hTc : ∀ (j : Nat) T, ps[j]? = some T → w.cell? ⟨b, j, none⟩ = some (.string T)) (hsm : ∀ T ∈ ps, T.size ≤ 2) :
    Calls Try.prog 93 #[.string s, .int .u8 q.toNat, .int .i64 f, .slice (some ⟨b, 0, none⟩) n n] w fun e w' => e = .returned (.int .i64 (quotedLen q f s.data.toList (ps.map (·.data.toList)) : Nat)) ∧ w = w' := by
  unfold maxLen at hs
  have HTc := Lib.hid hTc
  have HSm := Lib.hid hsm
  have HN := Lib.hid hn
  clear hTc hsm hn
  go_enter Try.func93, Try.ntmps93
  go_wp2
  go_step3
  go_wp2
  go_step3
  go_wp2
  go_loopg [17] n (fun g i wx => ∃ k : Nat, k + g = n ∧ i = .int .i64 k ∧ w = wx ∧ Hid (quotedLen q f s.data.toList (ps.map (·.data.toList)) = quotedLen q f s.data.toList ((ps.drop k).map (·.data.toList))))
  case atStart => exact ⟨0, by omega, rfl, rfl, Lib.hid rfl⟩
  case round =>
    obtain ⟨k, hkg, rfl, rfl, HQ⟩ := hrel
    cases gk with
    | zero =>
      obtain rfl : k = n := by omega
      go_wp2
      try rw [Exit.noGoto_ret]
      go_ret
      refine ⟨ri ?_, rfl⟩
      rw [HQ.out, List.drop_eq_nil_of_le (by rw [HN.out]; exact Nat.le_refl _)]
      rfl
    | succ g =>
      have hkn : k < n := by omega
      have hkp : k < ps.length := by rw [HN.out]; exact hkn
      obtain ⟨T, hT⟩ : ∃ T, ps[k]? = some T := ⟨_, List.getElem?_eq_getElem hkp⟩
      have hc := HTc.out k T hT
      have hTs : T.size ≤ 2 := HSm.out T (List.mem_of_getElem? hT)
      have HD : Hid ((ps.drop k).map (·.data.toList) = T.data.toList :: (ps.drop (k + 1)).map (·.data.toList)) := Lib.hid (by
        rw [List.drop_eq_getElem_cons hkp]
        rw [List.getElem?_eq_getElem hkp] at hT
        rw [Option.some.inj hT]; rfl)
      clear hT hkp
      have hnext : Hid (oneLen q f s.data.toList T.data.toList = 0 → quotedLen q f s.data.toList (ps.map (·.data.toList)) = quotedLen q f s.data.toList ((ps.drop (k + 1)).map (·.data.toList))) := Lib.hid (fun h => by
        rw [HQ.out, HD.out, quoted_cons, if_pos h])
      have hlast : Hid (oneLen q f s.data.toList T.data.toList ≠ 0 → quotedLen q f s.data.toList (ps.map (·.data.toList)) = oneLen q f s.data.toList T.data.toList) := Lib.hid (fun h => by
        rw [HQ.out, HD.out, quoted_cons, if_neg h])
      clear HQ HD
      have C := fun w => cut_any s T w
      have hcs := cutOf_size s T
      cases hp : Lib.hasPrefix s.data.toList T.data.toList with
      | false =>
        have H0 := Lib.hid (one_nopre (q := q) (f := f) hp)
        rw [hp] at C
        clear hp
        generalize cutOf s T = r at *
        go_wp2_with (go_at_call 103; refine (C _).mono ?_; rintro e w' ⟨rfl, rfl⟩)
        go_roundg g
        case rel => exact ⟨k + 1, by omega, by go_num, rfl, Lib.hid (hnext.out H0.out)⟩
        case measure => omega
      | true =>
        have HP := Lib.hid (one_pre (q := q) (f := f) hp)
        have hca := cutOf_add hp
        rw [hp] at C
        clear hp
        generalize cutOf s T = r at *
        by_cases hr : r.size = 0
        · have H0 : Hid (oneLen q f s.data.toList T.data.toList = 0) := Lib.hid (by rw [HP.out, if_pos (lit_empty hr)])
          have he : r.toList = [] := by rw [ByteArray.toList_eq]; exact List.length_eq_zero_iff.1 hr
          go_wp2_with (go_at_call 103; refine (C _).mono ?_; rintro e w' ⟨rfl, rfl⟩)
          go_roundg g
          case rel => exact ⟨k + 1, by omega, by go_num, rfl, Lib.hid (hnext.out H0.out)⟩
          case measure => omega
        · have hr0 : 0 < r.size := by omega
          have he : r.toList.isEmpty = false := by
            rw [ByteArray.toList_eq]
            cases h : r.data.toList with
            | nil => exact absurd (congrArg List.length h) hr
            | cons a b => rfl
          clear hr
          cases hq : ((r[0].toNat : Int) != (q.toNat : Int))
          case true =>
            have h1 : (r[0] == q) = false := b_ne q (by simpa using hq)
            go_wp2_with (go_at_call 103; refine (C _).mono ?_; rintro e w' ⟨rfl, rfl⟩)
            have H0 : Hid (oneLen q f s.data.toList T.data.toList = 0) := Lib.hid (by rw [HP.out, if_pos (lit_not hr0 h1)])
            go_roundg g
            case rel => exact ⟨k + 1, by omega, by go_num, rfl, Lib.hid (hnext.out H0.out)⟩
            case measure => omega
          case false =>
            have h1 : (r[0] == q) = true := b_eq q (by simpa using hq)
            go_wp2_with (go_at_call 103; refine (C _).mono ?_; rintro e w' ⟨rfl, rfl⟩)
            have HP2 : Hid (oneLen q f s.data.toList T.data.toList = if litOf f (bodyAt q r 1) = 0 then 0 else T.size + litOf f (bodyAt q r 1)) := Lib.hid (by rw [HP.out, lit_yes hr0 h1])
            clear h1 HP
            go_loopg [13, 14] (r.size - 1) (fun g2 p i wx => ∃ m pc : Nat, 1 ≤ m ∧ m + g2 = r.size ∧ p = .int .i64 pc ∧ pc ≤ m ∧ i = .int .i64 m ∧ w = wx ∧ Hid (pc = 0 ↔ m = 1) ∧ Hid (bodyAt q r 1 = (bodyAt q r m).map (· + (m - 1))))
            case atStart => exact ⟨1, 0, Nat.le_refl _, by omega, rfl, by omega, rfl, rfl, Lib.hid (by simp), Lib.hid (by rw [Nat.sub_self, mapAdd_zero])⟩
            case round =>
              obtain ⟨m, pc, hm1, hmg, rfl, hpm, rfl, rfl, HPC, HB⟩ := hrel
              cases gk with
              | zero =>
                obtain rfl : m = r.size := by omega
                have H0 : Hid (oneLen q f s.data.toList T.data.toList = 0) := Lib.hid (by rw [HP2.out, HB.out, body_end (Nat.le_refl _)]; rfl)
                go_wp2
                go_roundg g
                case rel => exact ⟨k + 1, by omega, by go_num, rfl, Lib.hid (hnext.out H0.out)⟩
                case measure => omega
              | succ g2 =>
                have hmr : m < r.size := by omega
                go_wp2
                · have h1 : (r[m] == q) = true := b_eq q (by assumption)
                  have hpf : pc < f := by assumption
                  have h0 : pc = 0 := by omega
                  have H0 : Hid (oneLen q f s.data.toList T.data.toList = 0) := Lib.hid (by
                    have h2 : m = 1 := HPC.out.1 h0
                    have hv : litOf f (bodyAt q r 1) = 0 := by
                      rw [HB.out, body_hit hmr h1]
                      show (if 0 + (m - 1) < f then 0 else 0 + (m - 1) + 2) = 0
                      rw [if_pos (by omega)]
                    rw [HP2.out, hv]; rfl)
                  clear h0
                  go_roundg g
                  case rel => exact ⟨k + 1, by omega, by go_num, rfl, Lib.hid (hnext.out H0.out)⟩
                  case measure => omega
                · have h1 : (r[m] == q) = true := b_eq q (by assumption)
                  have hpf : ¬ pc < f := by assumption
                  have H0 : Hid (oneLen q f s.data.toList T.data.toList = T.size + m + 1) := Lib.hid (by
                    have h2 : ¬ m - 1 < f := by
                      intro h3
                      have h4 : m = 1 := by omega
                      have h5 := HPC.out.2 h4
                      omega
                    have hv : litOf f (bodyAt q r 1) = m + 1 := by
                      rw [HB.out, body_hit hmr h1]
                      show (if 0 + (m - 1) < f then 0 else 0 + (m - 1) + 2) = m + 1
                      rw [if_neg (by omega)]; omega
                    rw [HP2.out, hv, if_neg (Nat.succ_ne_zero m)]; omega)
                  rw [Exit.noGoto_ret]
                  go_ret
                  refine ⟨ri ?_, rfl⟩
                  rw [hlast.out (by rw [H0.out]; omega), H0.out]
                  omega
                · have h1 : (r[m] == q) = false := b_ne q (by assumption)
                  have h2 : (r[m] == 10) = true := b_eq 10 (by assumption)
                  have H0 : Hid (oneLen q f s.data.toList T.data.toList = 0) := Lib.hid (by rw [HP2.out, HB.out, body_nl hmr h1 h2]; rfl)
                  go_roundg g
                  case rel => exact ⟨k + 1, by omega, by go_num, rfl, Lib.hid (hnext.out H0.out)⟩
                  case measure => omega
                · have h1 : (r[m] == q) = false := b_ne q (by assumption)
                  have h2 : (r[m] == 10) = false := b_ne 10 (by assumption)
                  have h3 : (r[m] == 92) = true := b_eq 92 (by assumption)
                  have H0 : Hid (oneLen q f s.data.toList T.data.toList = 0) := Lib.hid (by rw [HP2.out, HB.out, body_esc0 hmr h1 h2 h3 (by omega)]; rfl)
                  go_roundg g
                  case rel => exact ⟨k + 1, by omega, by go_num, rfl, Lib.hid (hnext.out H0.out)⟩
                  case measure => omega
                · have h1 : (r[m] == q) = false := b_ne q (by assumption)
                  have h2 : (r[m] == 10) = false := b_ne 10 (by assumption)
                  have h3 : (r[m] == 92) = true := b_eq 92 (by assumption)
                  have hm2 : m + 1 < r.size := by omega
                  have h4 : (r[m + 1] == 10) = true := by
                    have h : ((m : Int) + 1 == (r.size : Int)) = true ∨ ((r[m + 1].toNat : Int) == 10) = true := by assumption
                    exact b_eq 10 (h.resolve_left (by rw [beq_iff_eq]; omega))
                  have H0 : Hid (oneLen q f s.data.toList T.data.toList = 0) := Lib.hid (by rw [HP2.out, HB.out, body_esc1 hmr h1 h2 h3 hm2 h4]; rfl)
                  go_roundg g
                  case rel => exact ⟨k + 1, by omega, by go_num, rfl, Lib.hid (hnext.out H0.out)⟩
                  case measure => omega
                · have h1 : (r[m] == q) = false := b_ne q (by assumption)
                  have h2 : (r[m] == 10) = false := b_ne 10 (by assumption)
                  have h3 : (r[m] == 92) = true := b_eq 92 (by assumption)
                  have hm2 : m + 1 < r.size := by omega
                  have h4 : (r[m + 1] == 10) = false := by
                    have h : ((m : Int) + 1 == (r.size : Int)) = false ∧ ((r[m + 1].toNat : Int) == 10) = false := by assumption
                    exact b_ne 10 h.2
                  have HB2 : Hid (bodyAt q r 1 = (bodyAt q r (m + 2)).map (· + (m + 2 - 1))) := Lib.hid (by
                    rw [HB.out, body_esc2 hmr h1 h2 h3 hm2 h4, mapAdd_add, show 2 + (m - 1) = m + 2 - 1 by omega])
                  obtain ⟨g3, rfl⟩ : ∃ g3, g2 = g3 + 1 := ⟨g2 - 1, by omega⟩
                  go_roundg g3
                  case rel => exact ⟨m + 2, pc + 1, by omega, by omega, by go_num, by omega, by go_num, rfl, Lib.hid (by omega), HB2⟩
                  case measure => omega
                · have h1 : (r[m] == q) = false := b_ne q (by assumption)
                  have h2 : (r[m] == 10) = false := b_ne 10 (by assumption)
                  have h3 : (r[m] == 92) = false := b_ne 92 (by assumption)
                  have HB2 : Hid (bodyAt q r 1 = (bodyAt q r (m + 1)).map (· + (m + 1 - 1))) := Lib.hid (by
                    rw [HB.out, body_step hmr h1 h2 h3, mapAdd_add, show 1 + (m - 1) = m + 1 - 1 by omega])
                  go_roundg g2
                  case rel => exact ⟨m + 1, pc + 1, by omega, by omega, by go_num, by omega, by go_num, rfl, Lib.hid (by omega), HB2⟩
                  case measure => omega

end Go.Proofs.Ytaodjipnffgihaa
