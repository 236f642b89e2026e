/- Two tokens side by side: alone, and the two together, they are what they are in the text. -/
import Derived.Test.YtoepfehgimhmnaaStab
import Derived.Test.YtoepfehgimhmnaaCovers
namespace Go.Proofs.Ytoepfehgimhmnaa

def TokG (L : List UInt8) : Nat → List Tk → Prop
  | _, [] => True
  | e, t :: r => e ≤ t.a ∧ t.sp = decide (e < t.a) ∧ (∃ inc, nextOf inc (L.drop t.a) = (t.k, t.e - t.a, 0)) ∧ runLen isWS (L.drop t.a) = 0 ∧ t.a < t.e ∧ t.e ≤ L.length ∧ TokG L t.e r

theorem run_stop (p : UInt8 → Bool) : ∀ l : List UInt8, runLen p (l.drop (runLen p l)) = 0
  | [] => rfl
  | c :: r => by
    by_cases h : p c = true
    · rw [runLen, if_pos h, List.drop_succ_cons]; exact run_stop p r
    · rw [runLen, if_neg h, List.drop_zero, runLen, if_neg h]
theorem at_stop (l : List UInt8) (e : Nat) : runLen isWS (l.drop (atOf l e)) = 0 := by
  unfold atOf; rw [← List.drop_drop]; exact run_stop _ _

theorem toks_g {l : List UInt8} : ∀ (m e st : Nat), l.length - e ≤ m → e ≤ l.length → TokG l e (toks l e st).1 := by
  intro m
  induction m with
  | zero =>
    intro e st hm he
    have := atOf_ge l e
    rw [toks_end he (by omega)]
    exact trivial
  | succ m ih =>
    intro e st hm he
    have hg := atOf_ge l e
    by_cases h1 : l.length ≤ atOf l e
    · rw [toks_end he h1]; exact trivial
    · by_cases h2 : (nextAt l e st).2.2 = 0
      · rw [toks_cons (by omega) h2]
        have h3 := nextAt_len (by omega) h2
        have h5 : (tokAt l e st).e = atOf l e + (nextAt l e st).2.1 := rfl
        have h6 : (tokAt l e st).a = atOf l e := rfl
        refine ⟨hg, rfl, ⟨st == 2, ?_⟩, at_stop l e, by rw [h5, h6]; omega, by rw [h5]; exact h3.2, ih _ _ (by rw [h5]; omega) (by rw [h5]; exact h3.2)⟩
        show nextAt l e st = ((nextAt l e st).1, (tokAt l e st).e - (tokAt l e st).a, 0)
        rw [h5, h6, Nat.add_sub_cancel_left, ← h2]
      · rw [toks_err (by omega) h2]; exact trivial

theorem tokG_drop {L : List UInt8} {ts : List Tk} (h : TokG L 0 ts) : ∀ i, i ≤ ts.length → TokG L (prevE ts i) (ts.drop i) := by
  intro i
  induction i with
  | zero => intro _; exact h
  | succ i ih =>
    intro hi
    have h1 := ih (by omega)
    have ht : ts[i]? = some ts[i] := List.getElem?_eq_getElem (by omega)
    rw [List.drop_eq_getElem_cons (by omega)] at h1
    rw [prevE_succ ht]
    exact h1.2.2.2.2.2.2

theorem line_two (k : Nat) (t : List UInt8) : lineWith 0 k t ≠ 2 := by
  unfold lineWith
  repeat' split
  all_goals simp_all

/-- The token that stands at a place. -/
theorem toks_here {l : List UInt8} {e st k n : Nat} (hst : st ≠ 2) (h : nextOf false (l.drop e) = (k, n, 0)) (hw : runLen isWS (l.drop e) = 0) (hn : 1 ≤ n) (he : e + n ≤ l.length) :
    (toks l e st).1 = ⟨k, e, e + n, false⟩ :: (toks l (e + n) (stAt l e st)).1 := by
  have ha : atOf l e = e := by unfold atOf; rw [hw]; rfl
  have hx : nextAt l e st = (k, n, 0) := by
    unfold nextAt
    rw [ha, show (st == 2) = false by simpa using hst]; exact h
  have ht : tokAt l e st = ⟨k, e, e + n, false⟩ := by
    unfold tokAt; rw [hx, ha]; simp
  rw [toks_cons (by omega) (by rw [hx]), ht]

theorem one_yes {s : ByteArray} {k : Nat} (h : nextOf false s.data.toList = (k, s.size, 0)) (hw : runLen isWS s.data.toList = 0) (hn : 1 ≤ s.size) : oneOf s = (k, true) := by
  have hf : firstOf s 1 = [tokY s ⟨k, 0, 0 + s.size, false⟩] := by
    unfold firstOf toksY
    rw [toks_here (l := s.data.toList) (e := 0) (st := 0) (by decide) h hw hn (by rw [size_list]; omega)]
    rfl
  unfold oneOf
  rw [hf]
  have : ((tokY s ⟨k, 0, 0 + s.size, false⟩).tx.toList == s.toList) = true := by
    unfold tokY
    rw [ByteArray.toList_eq, ByteArray.toList_eq, extract_list, Nat.zero_add, List.drop_zero, List.take_of_length_le (Nat.le_refl s.size)]
    exact beq_self_eq_true _
  simp only [this]
  rfl

theorem apart_yes {a b : ByteArray} {k k2 : Nat} (h : nextOf false (a ++ b).data.toList = (k, a.size, 0)) (hw : runLen isWS (a ++ b).data.toList = 0) (ha : 1 ≤ a.size)
    (h2 : nextOf false b.data.toList = (k2, b.size, 0)) (hw2 : runLen isWS b.data.toList = 0) (hb : 1 ≤ b.size) : apartB a b = true := by
  have hl : (a ++ b).data.toList = a.data.toList ++ b.data.toList := by rw [ByteArray.data_append, Array.toList_append]
  have hd : (a ++ b).data.toList.drop (0 + a.size) = b.data.toList := by rw [hl, Nat.zero_add, ← size_list a, List.drop_left]
  have hsz : (a ++ b).data.toList.length = a.size + b.size := by rw [size_list, ByteArray.size_append]
  have hf : firstOf (a ++ b) 2 = [tokY (a ++ b) ⟨k, 0, 0 + a.size, false⟩, tokY (a ++ b) ⟨k2, 0 + a.size, 0 + a.size + b.size, false⟩] := by
    unfold firstOf toksY
    rw [toks_here (l := (a ++ b).data.toList) (e := 0) (st := 0) (by decide) h hw ha (by omega),
      toks_here (l := (a ++ b).data.toList) (e := 0 + a.size) (st := stAt (a ++ b).data.toList 0 0) (line_two _ _) (by rw [hd]; exact h2) (by rw [hd]; exact hw2) hb (by omega)]
    rfl
  unfold apartB
  rw [hf]
  have e1 : ((tokY (a ++ b) ⟨k, 0, 0 + a.size, false⟩).tx.toList == a.toList) = true := by
    unfold tokY
    rw [ByteArray.toList_eq, ByteArray.toList_eq, extract_list, Nat.zero_add, List.drop_zero, hl, ← size_list a, List.take_left]
    exact beq_self_eq_true _
  have e2 : ((tokY (a ++ b) ⟨k2, 0 + a.size, 0 + a.size + b.size, false⟩).tx.toList == b.toList) = true := by
    unfold tokY
    rw [ByteArray.toList_eq, ByteArray.toList_eq, extract_list, List.take_of_length_le (by show _ ≤ 0 + a.size + b.size; omega), hd]
    exact beq_self_eq_true _
  simp only [e1, e2]
  rfl

/-- Two tokens of a text with nothing between them do not fuse (headers' names aside). -/
theorem munch_pair {s : ByteArray} (h : scanErr s = 0) {i : Nat} {y1 y2 : Yd} (g1 : (scanOf s)[i]? = some y1) (g2 : (scanOf s)[i + 1]? = some y2) (hs : y2.sp = false) (k1 : y1.k ≠ 7) (k2 : y2.k ≠ 7) :
    fusesOf y1.tx y2.tx = (false, 0) ∧ y1.tx.size ≤ 65536 ∧ y2.tx.size ≤ 65536 := by
  obtain ⟨hz, hn⟩ := scan_size h
  have hi : i + 1 < (scanOf s).length := (List.getElem?_eq_some_iff.1 g2).1
  rw [scanOf_len h] at hi
  have hL : (logicalOf s.data.toList).length ≤ 65536 := by
    have h3 := charsOf_len (l := s.data.toList)
    have h4 := charsOf_le s.data.toList
    rw [size_list] at h4
    omega
  rw [scanOf_get h] at g1 g2
  have hG := tokG_drop (toks_g (l := logicalOf s.data.toList) _ 0 0 (Nat.le_refl _) (Nat.zero_le _)) i (by omega)
  generalize (toks (logicalOf s.data.toList) 0 0).1 = ts at *
  rw [List.getElem?_eq_getElem (by omega)] at g1 g2
  rw [List.drop_eq_getElem_cons (by omega), List.drop_eq_getElem_cons hi] at hG
  generalize ts[i] = t1 at *
  generalize ts[i + 1] = t2 at *
  have e1 : y1 = srcY (charsOf s.data.toList) (tokY (logB s) t1) := (Option.some.inj g1).symm
  have e2 : y2 = srcY (charsOf s.data.toList) (tokY (logB s) t2) := (Option.some.inj g2).symm
  have x1 : y1.tx.data.toList = ((logicalOf s.data.toList).drop t1.a).take (t1.e - t1.a) := by
    rw [e1]; show ((logB s).extract t1.a t1.e).data.toList = _
    rw [extract_list, logB_list, List.drop_take]
  have x2 : y2.tx.data.toList = ((logicalOf s.data.toList).drop t2.a).take (t2.e - t2.a) := by
    rw [e2]; show ((logB s).extract t2.a t2.e).data.toList = _
    rw [extract_list, logB_list, List.drop_take]
  have hk1 : t1.k ≠ 7 := by rw [e1] at k1; exact k1
  have hk2 : t2.k ≠ 7 := by rw [e2] at k2; exact k2
  have hsp : t2.sp = false := by rw [e2] at hs; exact hs
  clear e1 e2 g1 g2
  generalize logicalOf s.data.toList = L at *
  obtain ⟨-, -, ⟨i1, n1⟩, w1, l1, b1, q1, q2, ⟨i2, n2⟩, w2, l2, b2, -⟩ := hG
  have hadj : t2.a = t1.e := by
    rw [hsp] at q2
    have := of_decide_eq_false q2.symm
    omega
  have s1 : y1.tx.size = t1.e - t1.a := by rw [← size_list, x1, List.length_take, List.length_drop]; omega
  have s2 : y2.tx.size = t2.e - t2.a := by rw [← size_list, x2, List.length_take, List.length_drop]; omega
  have x12 : (y1.tx ++ y2.tx).data.toList = (L.drop t1.a).take (t2.e - t1.a) := by
    rw [ByteArray.data_append, Array.toList_append, x1, x2, hadj]
    have : L.drop t1.e = (L.drop t1.a).drop (t1.e - t1.a) := by rw [List.drop_drop]; congr 1; omega
    rw [this, show t2.e - t1.a = (t1.e - t1.a) + (t2.e - t1.e) by omega, List.take_add]
  have o1 : oneOf y1.tx = (t1.k, true) := one_yes (by rw [x1, s1]; exact next_take n1 hk1 (by omega) (Nat.le_refl _)) (by rw [x1, runLen_take, w1]; simp) (by omega)
  have o2 : oneOf y2.tx = (t2.k, true) := one_yes (by rw [x2, s2]; exact next_take n2 hk2 (by omega) (Nat.le_refl _)) (by rw [x2, runLen_take, w2]; simp) (by omega)
  have o3 : apartB y1.tx y2.tx = true := apart_yes (k := t1.k) (k2 := t2.k) (by rw [x12, s1]; exact next_take n1 hk1 (by omega) (by omega)) (by rw [x12, runLen_take, w1]; simp) (by omega)
    (by rw [x2, s2]; exact next_take n2 hk2 (by omega) (Nat.le_refl _)) (by rw [x2, runLen_take, w2]; simp) (by omega)
  refine ⟨?_, by omega, by omega⟩
  rw [fuses_yes (by rw [o1]) (by rw [o2]), o3]
  rfl

end Go.Proofs.Ytoepfehgimhmnaa
