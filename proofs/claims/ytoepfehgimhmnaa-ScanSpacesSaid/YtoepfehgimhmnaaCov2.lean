/- Where the tokens of a text stand: in order; between them white space and splices alone. -/
import Derived.Test.YtoepfehgimhmnaaSpan
namespace Go.Proofs.Ytoepfehgimhmnaa

/-- Where the characters ahead of a number of them end. -/
def endAt (cs : List Part) (i : Nat) : Nat := if i = 0 then 0 else (chAt cs (i - 1)).at' + (chAt cs (i - 1)).n
theorem endAt_succ (cs : List Part) (i : Nat) : endAt cs (i + 1) = (chAt cs i).at' + (chAt cs i).n := by
  unfold endAt; rw [if_neg (by omega)]; rfl

theorem drop_chAt {cs : List Part} {i : Nat} (h : i < cs.length) : cs.drop i = chAt cs i :: cs.drop (i + 1) := by
  rw [List.drop_eq_getElem_cons h]
  have := chAt_get h
  rw [List.getElem?_eq_getElem h] at this
  rw [Option.some.inj this]

theorem chain_drop {l : List UInt8} {cs : List Part} (h : Chain l 0 cs) : ∀ i, i ≤ cs.length → Chain l (endAt cs i) (cs.drop i) := by
  intro i
  induction i with
  | zero => intro _; exact h
  | succ i ih =>
    intro hi
    have h1 := ih (by omega)
    rw [drop_chAt (by omega)] at h1
    rw [endAt_succ]
    exact h1.2.2.2.2.2.2

/-- One character. -/
theorem char_at {l : List UInt8} {cs : List Part} (h : Chain l 0 cs) {j : Nat} (hj : j < cs.length) :
    endAt cs j ≤ (chAt cs j).at' ∧ okAt splB l (endAt cs j) (chAt cs j).at' ∧ 1 ≤ (chAt cs j).n ∧ endAt cs (j + 1) ≤ l.length ∧ ((chAt cs j).n = 1 → l[(chAt cs j).at']? = some (chAt cs j).b) ∧ (isWS (chAt cs j).b = true → (chAt cs j).n = 1) := by
  have h1 := chain_drop h j (by omega)
  rw [drop_chAt hj] at h1
  rw [endAt_succ]
  exact ⟨h1.1, h1.2.1, h1.2.2.1, h1.2.2.2.1, h1.2.2.2.2.1, h1.2.2.2.2.2.1⟩

theorem spl_ok (c : UInt8) (h : splB c = true) : okB c = true := by unfold okB; rw [h, Bool.or_true]

theorem seg {l : List UInt8} {cs : List Part} (h : Chain l 0 cs) : ∀ (d i : Nat), i + d < cs.length → (∀ t, i ≤ t → t < i + d → isWS (chAt cs t).b = true) → endAt cs i ≤ (chAt cs (i + d)).at' ∧ okAt okB l (endAt cs i) (chAt cs (i + d)).at' := by
  intro d
  induction d with
  | zero =>
    intro i hi _
    obtain ⟨h1, h2, _⟩ := char_at h (j := i) hi
    exact ⟨h1, okAt_mono spl_ok h2⟩
  | succ d ih =>
    intro i hi hw
    obtain ⟨h1, h2, h3, h4, h5, h6⟩ := char_at h (j := i) (by omega)
    have hws := hw i (Nat.le_refl _) (by omega)
    have hn := h6 hws
    obtain ⟨h7, h8⟩ := ih (i + 1) (by omega) (fun t ht1 ht2 => hw t (by omega) (by omega))
    rw [endAt_succ, hn] at h7 h8
    rw [show i + (d + 1) = i + 1 + d by omega]
    refine ⟨by omega, okAt_trans (okAt_mono spl_ok h2) (okAt_trans (y := (chAt cs i).at' + 1) ?_ h8)⟩
    intro k hk1 hk2 c hc
    obtain rfl : k = (chAt cs i).at' := by omega
    rw [h5 hn] at hc
    cases hc
    unfold okB; rw [hws]; rfl
theorem seg_end {l : List UInt8} {cs : List Part} (h : Chain l 0 cs) : ∀ (d i : Nat), i + d = cs.length → (∀ t, i ≤ t → t < cs.length → isWS (chAt cs t).b = true) → okAt okB l (endAt cs i) l.length := by
  intro d
  induction d with
  | zero =>
    intro i hi _
    have h1 := chain_drop h i (by omega)
    rw [List.drop_eq_nil_of_le (by omega)] at h1
    exact okAt_mono spl_ok h1
  | succ d ih =>
    intro i hi hw
    obtain ⟨h1, h2, h3, h4, h5, h6⟩ := char_at h (j := i) (by omega)
    have hws := hw i (Nat.le_refl _) (by omega)
    have hn := h6 hws
    have h8 := ih (i + 1) (by omega) (fun t ht1 ht2 => hw t (by omega) ht2)
    rw [endAt_succ, hn] at h8
    refine okAt_trans (okAt_mono spl_ok h2) (okAt_trans (y := (chAt cs i).at' + 1) ?_ h8)
    intro k hk1 hk2 c hc
    obtain rfl : k = (chAt cs i).at' := by omega
    rw [h5 hn] at hc
    cases hc
    unfold okB; rw [hws]; rfl

/-- What characters span: as many bytes at least; if as many, then these. -/
theorem span {l : List UInt8} {cs : List Part} (h : Chain l 0 cs) (a : Nat) : ∀ d, a + d < cs.length → (chAt cs a).at' + (d + 1) ≤ endAt cs (a + d + 1) ∧
    (endAt cs (a + d + 1) = (chAt cs a).at' + (d + 1) → ∀ t, t ≤ d → l[(chAt cs a).at' + t]? = some (chAt cs (a + t)).b) := by
  intro d
  induction d with
  | zero =>
    intro ha
    obtain ⟨h1, h2, h3, h4, h5, h6⟩ := char_at h (j := a) ha
    simp only [Nat.add_zero, endAt_succ]
    refine ⟨by omega, fun he t ht => ?_⟩
    obtain rfl : t = 0 := by omega
    exact h5 (by omega)
  | succ d ih =>
    intro ha
    obtain ⟨i1, i2⟩ := ih (by omega)
    obtain ⟨h1, h2, h3, h4, h5, h6⟩ := char_at h (j := a + d + 1) (by omega)
    rw [show a + (d + 1) + 1 = (a + d + 1) + 1 by omega, endAt_succ]
    refine ⟨by omega, fun he t ht => ?_⟩
    by_cases htd : t ≤ d
    · exact i2 (by omega) t htd
    · obtain rfl : t = d + 1 := by omega
      have := h5 (by omega)
      rw [show (chAt cs a).at' + (d + 1) = (chAt cs (a + d + 1)).at' by omega, show a + (d + 1) = a + d + 1 by omega]
      exact this

/-! ### The tokens of a logical text, one behind the other -/

def TokChain (L : List UInt8) : Nat → List Tk → Prop
  | e, [] => okAt isWS L e L.length
  | e, t :: r => e ≤ t.a ∧ okAt isWS L e t.a ∧ t.a < t.e ∧ t.e ≤ L.length ∧ TokChain L t.e r

theorem run_ok {p : UInt8 → Bool} : ∀ (l : List UInt8) (k : Nat), k < runLen p l → ∀ c, l[k]? = some c → p c = true
  | [], k, h, c, hc => by simp at hc
  | d :: r, k, h, c, hc => by
    rw [runLen] at h
    by_cases hp : p d = true
    · rw [if_pos hp] at h
      cases k with
      | zero => simp at hc; rw [← hc]; exact hp
      | succ k => exact run_ok r k (by omega) c (by simpa using hc)
    · rw [if_neg hp] at h; omega
theorem at_ok (l : List UInt8) (e : Nat) : okAt isWS l e (atOf l e) := fun k h1 h2 c hc => by
  unfold atOf at h2
  obtain ⟨i, rfl⟩ : ∃ i, k = e + i := ⟨k - e, by omega⟩
  rw [← List.getElem?_drop] at hc
  exact run_ok (l.drop e) i (by omega) c hc

theorem toks_chain {l : List UInt8} : ∀ (m e st : Nat), l.length - e ≤ m → e ≤ l.length → (toks l e st).2 = 0 → TokChain l e (toks l e st).1 := by
  intro m
  induction m with
  | zero =>
    intro e st hm he _
    have := atOf_ge l e
    rw [toks_end he (by omega)]
    intro k h1 h2
    omega
  | succ m ih =>
    intro e st hm he h0
    have hg := atOf_ge l e
    by_cases h1 : l.length ≤ atOf l e
    · rw [toks_end he h1]
      exact fun k hk1 hk2 => at_ok l e k hk1 (by omega)
    · by_cases h2 : (nextAt l e st).2.2 = 0
      · rw [toks_cons (by omega) h2] at h0 ⊢
        have h3 := nextAt_len (by omega) h2
        have h5 : (tokAt l e st).e = atOf l e + (nextAt l e st).2.1 := rfl
        refine ⟨hg, at_ok l e, by rw [h5]; show atOf l e < _; omega, by rw [h5]; exact h3.2, ih _ _ (by rw [h5]; omega) (by rw [h5]; exact h3.2) h0⟩
      · rw [toks_err (by omega) h2] at h0
        exact absurd h0 h2

def prevE (ts : List Tk) (i : Nat) : Nat := if i = 0 then 0 else (ts.getD (i - 1) ⟨0, 0, 0, false⟩).e
theorem prevE_succ {ts : List Tk} {i : Nat} {t : Tk} (h : ts[i]? = some t) : prevE ts (i + 1) = t.e := by
  unfold prevE
  rw [if_neg (by omega)]
  simp [h]
theorem tok_drop {L : List UInt8} {ts : List Tk} (h : TokChain L 0 ts) : ∀ i, i ≤ ts.length → TokChain L (prevE ts i) (ts.drop i) := by
  intro i
  induction i with
  | zero => intro _; exact h
  | succ i ih =>
    intro hi
    have h1 := ih (by omega)
    have ht : ts[i]? = some ts[i] := List.getElem?_eq_getElem (by omega)
    rw [List.drop_eq_getElem_cons (by omega)] at h1
    rw [prevE_succ ht]
    exact h1.2.2.2.2

/-! ### The tokens that Scan answers -/

theorem scan_parts {s : ByteArray} (h : scanErr s = 0) : checkN s.data.toList = 0 ∧ (toks (logicalOf s.data.toList) 0 0).2 = 0 := by
  unfold scanErr at h
  by_cases hc : checkN s.data.toList = 0
  · rw [if_pos hc] at h; exact ⟨hc, by omega⟩
  · rw [if_neg hc] at h; exact absurd h hc
theorem log_at {l : List UInt8} (h : checkN l = 0) {t : Nat} (ht : t < (charsOf l).length) : (logicalOf l)[t]? = some (chAt (charsOf l) t).b := by
  have h1 := chAt_get ht
  rw [logicalOf_ok h, chB]
  rw [charsOf_ok h] at h1 ⊢
  rw [List.getElem?_map, h1]; rfl

/-- Where the token ahead of one ends. -/
def covA (ys : List Yd) (i : Nat) : Nat := if i = 0 then 0 else (ys.getD (i - 1) ⟨0, ⟨#[]⟩, 0, 0, false, 0⟩).e
theorem covA_succ {ys : List Yd} {i : Nat} {y : Yd} (h : ys[i]? = some y) : covA ys (i + 1) = y.e := by
  unfold covA
  rw [if_neg (by omega)]
  simp [h]

theorem scanOf_get {s : ByteArray} (h : scanErr s = 0) (i : Nat) : (scanOf s)[i]? = ((toks (logicalOf s.data.toList) 0 0).1[i]?).map fun t => srcY (charsOf s.data.toList) (tokY (logB s) t) := by
  unfold scanOf
  rw [if_pos h]
  unfold toksY
  rw [logB_list, List.getElem?_map, List.getElem?_map, Option.map_map]
  rfl
theorem scanOf_len {s : ByteArray} (h : scanErr s = 0) : (scanOf s).length = (toks (logicalOf s.data.toList) 0 0).1.length := by
  unfold scanOf
  rw [if_pos h]
  unfold toksY
  rw [logB_list, List.length_map, List.length_map]
theorem src_end {cs : List Part} {L : ByteArray} {t : Tk} (h : 0 < t.e) : (srcY cs (tokY L t)).e = endAt cs t.e := by
  unfold srcY tokY endAt
  rw [if_neg (by omega)]
theorem covA_end {s : ByteArray} (h : scanErr s = 0) (i : Nat) (hi : i ≤ (scanOf s).length) : covA (scanOf s) i = endAt (charsOf s.data.toList) (prevE (toks (logicalOf s.data.toList) 0 0).1 i) := by
  obtain ⟨hc, he⟩ := scan_parts h
  cases i with
  | zero => rfl
  | succ i =>
    rw [scanOf_len h] at hi
    have ht : (toks (logicalOf s.data.toList) 0 0).1[i]? = some (toks (logicalOf s.data.toList) 0 0).1[i] := List.getElem?_eq_getElem (by omega)
    have hy := scanOf_get h i
    rw [ht] at hy
    rw [covA_succ hy, prevE_succ ht, src_end]
    have := toks_within (l := logicalOf s.data.toList) _ 0 0 (Nat.le_refl _) (Nat.zero_le _) _ (List.mem_of_getElem? ht)
    omega

/-- One token of a text: where it stands. -/
theorem cover_at {s : ByteArray} (h : scanErr s = 0) {i : Nat} {y : Yd} (hy : (scanOf s)[i]? = some y) :
    covA (scanOf s) i ≤ y.a ∧ y.a < y.e ∧ y.e ≤ s.size ∧ okAt okB s.data.toList (covA (scanOf s) i) y.a ∧ y.tx.size ≤ y.e - y.a ∧ (y.e - y.a = y.tx.size → (s.data.toList.take y.e).drop y.a = y.tx.data.toList) := by
  obtain ⟨hc, he⟩ := scan_parts h
  have hi : i < (scanOf s).length := (List.getElem?_eq_some_iff.1 hy).1
  rw [covA_end h i (by omega)]
  have hil := hi
  rw [scanOf_len h] at hil
  obtain ⟨t, ht⟩ : ∃ t, (toks (logicalOf s.data.toList) 0 0).1[i]? = some t := ⟨_, List.getElem?_eq_getElem hil⟩
  have hy2 := scanOf_get h i
  rw [ht, hy] at hy2
  have hyd : y = srcY (charsOf s.data.toList) (tokY (logB s) t) := Option.some.inj hy2
  have htc := toks_chain (l := logicalOf s.data.toList) _ 0 0 (Nat.le_refl _) (Nat.zero_le _) he
  have htd := tok_drop htc i (by omega)
  rw [List.drop_eq_getElem_cons hil] at htd
  have hte : (toks (logicalOf s.data.toList) 0 0).1[i] = t := by rw [List.getElem?_eq_getElem hil] at ht; exact Option.some.inj ht
  rw [hte] at htd
  obtain ⟨q1, q2, q3, q4, _⟩ := htd
  have hcl := charsOf_len (l := s.data.toList)
  have hch : Chain s.data.toList 0 (charsOf s.data.toList) := by rw [charsOf_ok hc]; exact chain_parts _ 0 rfl (Nat.zero_le _)
  have hlog := fun k hk => log_at hc (t := k) hk
  generalize hcs : charsOf s.data.toList = cs at *
  generalize prevE (toks (logicalOf s.data.toList) 0 0).1 i = e0 at *
  have hws : ∀ k, e0 ≤ k → k < e0 + (t.a - e0) → isWS (chAt cs k).b = true := fun k hk1 hk2 => q2 k hk1 (by omega) _ (hlog k (by omega))
  obtain ⟨g1, g2⟩ := seg hch (t.a - e0) e0 (by omega) hws
  rw [show e0 + (t.a - e0) = t.a by omega] at g1 g2
  obtain ⟨s1, s2⟩ := span hch t.a (t.e - t.a - 1) (by omega)
  rw [show t.a + (t.e - t.a - 1) + 1 = t.e by omega, show t.e - t.a - 1 + 1 = t.e - t.a by omega] at s1 s2
  have hya : y.a = (chAt cs t.a).at' := by rw [hyd]; rfl
  have hye : y.e = endAt cs t.e := by rw [hyd]; exact src_end (by omega)
  have htx : y.tx = (logB s).extract t.a t.e := by rw [hyd]; rfl
  have htl : y.tx.data.toList = ((logicalOf s.data.toList).take t.e).drop t.a := by rw [htx, extract_list, logB_list]
  have hts : y.tx.size = t.e - t.a := by
    rw [← size_list, htl, List.length_drop, List.length_take]; omega
  have hend : endAt cs t.e ≤ s.data.toList.length := by
    have := (char_at hch (j := t.e - 1) (by omega)).2.2.2.1
    rw [show t.e - 1 + 1 = t.e by omega] at this
    exact this
  rw [size_list] at hend
  rw [hya, hye, hts]
  refine ⟨g1, by omega, hend, g2, by omega, fun heq => ?_⟩
  rw [htl]
  have s3 := s2 (by omega)
  apply List.ext_getElem?
  intro k
  rw [List.getElem?_drop, List.getElem?_drop]
  by_cases hk : k < t.e - t.a
  · rw [List.getElem?_take_of_lt (by omega), List.getElem?_take_of_lt (by omega), s3 k (by omega), hlog (t.a + k) (by omega)]
  · rw [List.getElem?_eq_none (by rw [List.length_take]; omega), List.getElem?_eq_none (by rw [List.length_take]; omega)]

/-- Behind the last token. -/
theorem cover_end {s : ByteArray} (h : scanErr s = 0) : covA (scanOf s) (scanOf s).length ≤ s.size ∧ okAt okB s.data.toList (covA (scanOf s) (scanOf s).length) s.size := by
  obtain ⟨hc, he⟩ := scan_parts h
  rw [covA_end h _ (Nat.le_refl _)]
  have htc := toks_chain (l := logicalOf s.data.toList) _ 0 0 (Nat.le_refl _) (Nat.zero_le _) he
  have htd := tok_drop htc (scanOf s).length (by rw [scanOf_len h]; exact Nat.le_refl _)
  rw [List.drop_eq_nil_of_le (by rw [scanOf_len h]; exact Nat.le_refl _)] at htd
  have hcl := charsOf_len (l := s.data.toList)
  have hch : Chain s.data.toList 0 (charsOf s.data.toList) := by rw [charsOf_ok hc]; exact chain_parts _ 0 rfl (Nat.zero_le _)
  have hlog := fun k hk => log_at hc (t := k) hk
  have hpe : prevE (toks (logicalOf s.data.toList) 0 0).1 (scanOf s).length ≤ (charsOf s.data.toList).length := by
    rw [← hcl]
    unfold prevE
    split
    · exact Nat.zero_le _
    · rename_i h0
      have hlt : (scanOf s).length - 1 < (toks (logicalOf s.data.toList) 0 0).1.length := by rw [← scanOf_len h]; omega
      have hg : (toks (logicalOf s.data.toList) 0 0).1[(scanOf s).length - 1]? = some _ := List.getElem?_eq_getElem hlt
      have := toks_within (l := logicalOf s.data.toList) _ 0 0 (Nat.le_refl _) (Nat.zero_le _) _ (List.mem_of_getElem? hg)
      rw [List.getD_eq_getElem?_getD, hg]
      exact this.2.2.1
  generalize charsOf s.data.toList = cs at *
  generalize prevE (toks (logicalOf s.data.toList) 0 0).1 (scanOf s).length = e0 at *
  have h1 := seg_end hch (cs.length - e0) e0 (by omega) (fun k hk1 hk2 => htd k hk1 (by omega) _ (hlog k hk2))
  rw [size_list] at h1
  refine ⟨?_, h1⟩
  cases e0 with
  | zero => exact Nat.zero_le _
  | succ e0 =>
    have := (char_at hch (j := e0) (by omega)).2.2.2.1
    rw [size_list] at this
    exact this

/-- Are all bytes white space or a splice's? -/
def splicedB (l : List UInt8) : Bool := l.all okB
theorem spliced_at {s : ByteArray} {x y : Nat} (h : okAt okB s.data.toList x y) : splicedB (s.extract x y).data.toList = true := by
  rw [extract_list]
  unfold splicedB
  rw [List.all_eq_true]
  intro c hc
  obtain ⟨k, hk⟩ := List.getElem?_of_mem hc
  rw [List.getElem?_drop] at hk
  have hlt := (List.getElem?_eq_some_iff.1 hk).1
  rw [List.length_take] at hlt
  rw [List.getElem?_take_of_lt (by omega)] at hk
  exact h (x + k) (by omega) (by omega) c hk

end Go.Proofs.Ytoepfehgimhmnaa
