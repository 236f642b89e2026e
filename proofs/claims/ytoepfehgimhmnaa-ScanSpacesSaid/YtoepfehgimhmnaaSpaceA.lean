/- What the law's first loop makes. -/
import Derived.Test.YtoepfehgimhmnaaSpaced
namespace Go.Proofs.Ytoepfehgimhmnaa

/-- The texts of tokens, a blank ahead of each but lines' ends and the first. -/
def sp1 : Bool → List Yd → List UInt8
  | _, [] => []
  | first, y :: r => (if first || y.k == 9 then [] else [32]) ++ (y.tx.data.toList ++ sp1 false r)

theorem sp1_false {L : ByteArray} (cs : List Part) : ∀ ts : List Tk, sp1 false ((ts.map (tokY L)).map (srcY cs)) = joinR L.data.toList ts
  | [] => rfl
  | t :: r => by
    rw [List.map_cons, List.map_cons, sp1, joinR, sp1_false cs r]
    have h1 : (srcY cs (tokY L t)).k = t.k := rfl
    have h2 : (srcY cs (tokY L t)).tx.data.toList = txt L.data.toList t := by
      show (L.extract t.a t.e).data.toList = _
      rw [extract_list]; rfl
    rw [h1, h2]
    unfold gap
    by_cases hk : t.k = 9
    · rw [if_pos hk, hk]; rfl
    · rw [if_neg hk, if_neg (by simpa using hk)]
theorem sp1_true {L : ByteArray} (cs : List Part) (ts : List Tk) : sp1 true ((ts.map (tokY L)).map (srcY cs)) = joinL L.data.toList [] ts := by
  cases ts with
  | nil => rfl
  | cons t r =>
    rw [List.map_cons, List.map_cons, sp1, joinL, sp1_false cs r]
    have h2 : (srcY cs (tokY L t)).tx.data.toList = txt L.data.toList t := by
      show (L.extract t.a t.e).data.toList = _
      rw [extract_list]; rfl
    rw [h2]; rfl
theorem sp1_spaced {s : ByteArray} (h : scanErr s = 0) : sp1 true (scanOf s) = spaced s := by
  unfold scanOf spaced
  rw [if_pos h]
  unfold toksY
  rw [sp1_true, logB_list]

/-- The tokens of what is spelt: kinds and texts. -/
theorem spelt_toks {s : ByteArray} (h : scanErr s = 0) (hz : s.size ≤ 20000) :
    scanErr ⟨(spellOut (spaced s)).1.toArray⟩ = 0 ∧ (scanOf ⟨(spellOut (spaced s)).1.toArray⟩).length = (scanOf s).length ∧
      ∀ (i : Nat) (y y' : Yd), (scanOf s)[i]? = some y → (scanOf ⟨(spellOut (spaced s)).1.toArray⟩)[i]? = some y' → y'.k = y.k ∧ y'.tx = y.tx := by
  obtain ⟨_, hf, hc, hl, t1, t2⟩ := spaced_ok h hz
  have hT : (⟨(spellOut (spaced s)).1.toArray⟩ : ByteArray).data.toList = (spellOut (spaced s)).1 := by simp
  generalize hTT : (⟨(spellOut (spaced s)).1.toArray⟩ : ByteArray) = T at *
  have he : scanErr T = 0 := by
    unfold scanErr
    rw [hT, if_pos hc, hl, t1]; rfl
  refine ⟨he, ?_, fun i y y' h1 h2 => ?_⟩
  · rw [scanOf_len he, scanOf_len h, hT, hl]
    have := congrArg List.length t2
    unfold kinds at this
    rw [List.length_map, List.length_map] at this
    exact this
  · rw [scanOf_get h] at h1
    rw [scanOf_get he, hT, hl] at h2
    have h3 := congrArg (fun q => q[i]?) t2
    unfold kinds at h3
    simp only [List.getElem?_map] at h3
    cases e1 : (toks (logicalOf s.data.toList) 0 0).1[i]? with
    | none => rw [e1] at h1; cases h1
    | some t =>
      cases e2 : (toks (spaced s) 0 0).1[i]? with
      | none => rw [e2] at h2; cases h2
      | some t' =>
        rw [e1, e2] at h3
        rw [e1] at h1
        rw [e2] at h2
        simp only [Option.map_some, Option.some.injEq, Prod.mk.injEq] at h1 h2 h3
        subst h1 h2
        refine ⟨h3.1, ?_⟩
        have x1 : ((logB T).extract t'.a t'.e).data.toList = txt (spaced s) t' := by rw [extract_list, logB_list, hT, hl]; rfl
        have x2 : ((logB s).extract t.a t.e).data.toList = txt (logicalOf s.data.toList) t := by rw [extract_list, logB_list]; rfl
        show (logB T).extract t'.a t'.e = (logB s).extract t.a t.e
        apply ByteArray.ext
        apply Array.toList_inj.1
        rw [x1, x2, h3.2]

end Go.Proofs.Ytoepfehgimhmnaa
