/- The walk of the law MacroNames: the chapter's examples. -/
import Derived.Test.YtaodjipnffgihaaMxD
namespace Go.Proofs.Ytaodjipnffgihaa
open Go.RowKit Go.Shelf

/-- A macro's text, reckoned by fuel. -/
def textF (m : Mz) : Option (List UInt8) := if (spellOut (lineS m)).2 = 0 then (match definedF (spellOut (lineS m)).1 with
  | some x => if sameM x m then some (spellOut (lineS m)).1 else none
  | none => none) else none
theorem textS_F (m : Mz) : textS m = (textF m).map (fun l => ⟨l.toArray⟩) := by
  unfold textS textF
  have e : definedS ⟨(spellOut (lineS m)).1.toArray⟩ = definedF (spellOut (lineS m)).1 := definedS_F _
  rw [e]
  split
  · cases definedF (spellOut (lineS m)).1 with
    | none => rfl
    | some x => dsimp only; split <;> rfl
  · rfl
theorem mn_a : definedS ⟨#[35, 100, 101, 102, 105, 110, 101, 32, 88, 10]⟩ = some ⟨⟨#[88]⟩, false, [], false, []⟩ := defd_is (by decide +kernel)
theorem mn_b : definedS ⟨#[35, 100, 101, 102, 105, 110, 101, 32, 70, 32, 40, 97, 41, 32, 97, 10]⟩ = some ⟨⟨#[70]⟩, false, [], false, [⟨5, ⟨#[40]⟩, false, []⟩, ⟨1, ⟨#[97]⟩, false, []⟩, ⟨5, ⟨#[41]⟩, false, []⟩, ⟨1, ⟨#[97]⟩, true, []⟩]⟩ := defd_is (by decide +kernel)
theorem mn_c : definedS ⟨#[35, 100, 101, 102, 105, 110, 101, 32, 86, 40, 46, 46, 46, 41, 32, 35, 95, 95, 86, 65, 95, 65, 82, 71, 83, 95, 95, 10]⟩ = some ⟨⟨#[86]⟩, true, [], true, [⟨5, ⟨#[35]⟩, false, []⟩, ⟨1, ⟨#[95, 95, 86, 65, 95, 65, 82, 71, 83, 95, 95]⟩, false, []⟩]⟩ := defd_is (by decide +kernel)
theorem mn_d : definedS ⟨#[35, 100, 101, 102, 105, 110, 101, 32, 86, 40, 32, 97, 32, 44, 32, 46, 46, 46, 32, 41, 97, 10]⟩ = some ⟨⟨#[86]⟩, true, [⟨#[97]⟩], true, [⟨1, ⟨#[97]⟩, false, []⟩]⟩ := defd_is (by decide +kernel)
theorem mn_f : definedS ⟨#[35, 100, 101, 102, 105, 110, 101, 32, 79, 32, 97, 35, 98, 10]⟩ = some ⟨⟨#[79]⟩, false, [], false, [⟨1, ⟨#[97]⟩, false, []⟩, ⟨5, ⟨#[35]⟩, false, []⟩, ⟨1, ⟨#[98]⟩, false, []⟩]⟩ := defd_is (by decide +kernel)
theorem mn_r0 : refB (hashDef ++ (⟨#[88, 43, 49]⟩ : ByteArray).data.toList ++ [10]) = true := by decide +kernel
theorem mn_r1 : refB (hashDef ++ (⟨#[70, 40, 97, 44, 32, 97, 41]⟩ : ByteArray).data.toList ++ [10]) = true := by decide +kernel
theorem mn_r2 : refB (hashDef ++ (⟨#[70, 40, 97]⟩ : ByteArray).data.toList ++ [10]) = true := by decide +kernel
theorem mn_r3 : refB (hashDef ++ (⟨#[88, 32, 35, 35, 32, 49]⟩ : ByteArray).data.toList ++ [10]) = true := by decide +kernel
theorem mn_r4 : refB (hashDef ++ (⟨#[70, 40, 97, 41, 32, 35, 98]⟩ : ByteArray).data.toList ++ [10]) = true := by decide +kernel
theorem mn_r5 : refB (hashDef ++ (⟨#[70, 40, 97, 41, 32, 95, 95, 86, 65, 95, 65, 82, 71, 83, 95, 95]⟩ : ByteArray).data.toList ++ [10]) = true := by decide +kernel
theorem mn_r6 : refB (hashDef ++ (⟨#[100, 101, 102, 105, 110, 101, 100]⟩ : ByteArray).data.toList ++ [10]) = true := by decide +kernel
theorem mn_r7 : refB (hashDef ++ (⟨#[]⟩ : ByteArray).data.toList ++ [10]) = true := by decide +kernel
theorem mn_r8 : refB (hashDef ++ (⟨#[70, 40, 97, 44, 41]⟩ : ByteArray).data.toList ++ [10]) = true := by decide +kernel
theorem mn_r9 : refB (hashDef ++ (⟨#[70, 40, 46, 46, 46, 44, 32, 97, 41]⟩ : ByteArray).data.toList ++ [10]) = true := by decide +kernel
theorem mn_r10 : refB (hashDef ++ (⟨#[70, 40, 97, 32, 98, 41]⟩ : ByteArray).data.toList ++ [10]) = true := by decide +kernel
theorem mn_r11 : refB (hashDef ++ (⟨#[95, 95, 76, 73, 78, 69, 95, 95, 32, 49]⟩ : ByteArray).data.toList ++ [10]) = true := by decide +kernel
theorem mn_r12 : refB (hashDef ++ (⟨#[70, 40, 41, 32, 97, 32, 37, 58, 37, 58]⟩ : ByteArray).data.toList ++ [10]) = true := by decide +kernel
theorem mn_r13 : refB (hashDef ++ (⟨#[49]⟩ : ByteArray).data.toList ++ [10]) = true := by decide +kernel
theorem mn_r14 : refB (hashDef ++ (⟨#[70, 40, 95, 95, 86, 65, 95, 65, 82, 71, 83, 95, 95, 41]⟩ : ByteArray).data.toList ++ [10]) = true := by decide +kernel
theorem mn_r15 : refB (hashDef ++ (⟨#[70, 40, 97, 41, 32, 35]⟩ : ByteArray).data.toList ++ [10]) = true := by decide +kernel
theorem mn_t0 : textS ⟨⟨#[86]⟩, true, [⟨#[97]⟩], true, [⟨1, ⟨#[97]⟩, false, []⟩]⟩ = some ⟨#[35, 100, 101, 102, 105, 110, 101, 32, 86, 40, 97, 44, 46, 46, 46, 41, 32, 97, 10]⟩ := by
  rw [textS_F, show textF ⟨⟨#[86]⟩, true, [⟨#[97]⟩], true, [⟨1, ⟨#[97]⟩, false, []⟩]⟩ = some [35, 100, 101, 102, 105, 110, 101, 32, 86, 40, 97, 44, 46, 46, 46, 41, 32, 97, 10] by decide +kernel]; rfl
theorem mn_t1 : textS ⟨⟨#[97, 32, 98]⟩, false, [], false, []⟩ = none := by
  rw [textS_F, show textF ⟨⟨#[97, 32, 98]⟩, false, [], false, []⟩ = none by decide +kernel]; rfl
theorem mn_t2 : textS ⟨⟨#[88]⟩, false, [], false, [⟨5, ⟨#[43]⟩, false, []⟩, ⟨5, ⟨#[43]⟩, false, []⟩]⟩ = none := by
  rw [textS_F, show textF ⟨⟨#[88]⟩, false, [], false, [⟨5, ⟨#[43]⟩, false, []⟩, ⟨5, ⟨#[43]⟩, false, []⟩]⟩ = none by decide +kernel]; rfl
theorem pz_two {W : World} {B : Nat} (h : W.heap[B]? = some (.cells #[.int .i64 5, .string ⟨#[43]⟩, .bool false, .slice none 0 0, .int .i64 5, .string ⟨#[43]⟩, .bool false, .slice none 0 0] 36 (0, 0))) : PzIn W (some ⟨B, 0, none⟩) [⟨5, ⟨#[43]⟩, false, []⟩, ⟨5, ⟨#[43]⟩, false, []⟩] := fun _ => by
  refine ⟨B, 0, rfl, (Array.getElem?_eq_some_iff.1 h).1, fun i p hi => ?_⟩
  match i, hi with
  | 0, hi =>
    simp only [List.getElem?_cons_zero, Option.some.injEq] at hi
    subst hi
    refine ⟨?_, ?_, ?_, none, 0, ?_, fun hp => absurd hp (Nat.lt_irrefl 0), Nat.zero_le _⟩
    all_goals simp [World.cell?, h]
  | 1, hi =>
    simp only [List.getElem?_cons_succ, List.getElem?_cons_zero, Option.some.injEq] at hi
    subst hi
    refine ⟨?_, ?_, ?_, none, 0, ?_, fun hp => absurd hp (Nat.lt_irrefl 0), Nat.zero_le _⟩
    all_goals simp [World.cell?, h]
  | i + 2, hi => simp at hi

set_option maxRecDepth 100000 in
set_option maxHeartbeats 8000000 in
theorem mnames_any (w : World) (hL : LibVar w) : Calls Try.prog 4 #[] w fun e w' => e = .returned (.bool true) ∧ Below w.heap.size w w' := by
  have hB0 := Below.refl w.heap.size w
  have CDa := fun W => ldefined_any ⟨#[35, 100, 101, 102, 105, 110, 101, 32, 88, 10]⟩ W (by decide)
  rw [mn_a] at CDa
  have CDb := fun W => ldefined_any ⟨#[35, 100, 101, 102, 105, 110, 101, 32, 70, 32, 40, 97, 41, 32, 97, 10]⟩ W (by decide)
  rw [mn_b] at CDb
  have CDc := fun W => ldefined_any ⟨#[35, 100, 101, 102, 105, 110, 101, 32, 86, 40, 46, 46, 46, 41, 32, 35, 95, 95, 86, 65, 95, 65, 82, 71, 83, 95, 95, 10]⟩ W (by decide)
  rw [mn_c] at CDc
  have CDd := fun W => ldefined_any ⟨#[35, 100, 101, 102, 105, 110, 101, 32, 86, 40, 32, 97, 32, 44, 32, 46, 46, 46, 32, 41, 97, 10]⟩ W (by decide)
  rw [mn_d] at CDd
  have CDf := fun W => ldefined_any ⟨#[35, 100, 101, 102, 105, 110, 101, 32, 79, 32, 97, 35, 98, 10]⟩ W (by decide)
  rw [mn_f] at CDf
  have CA := fun (W : World) (h : Below w.heap.size w W) => alive5_any W (hL.low h)
  have CR0 := fun (W : World) (h : Below w.heap.size w W) => refused_any ⟨#[88, 43, 49]⟩ W (by decide) (hL.low h) mn_r0
  have CR1 := fun (W : World) (h : Below w.heap.size w W) => refused_any ⟨#[70, 40, 97, 44, 32, 97, 41]⟩ W (by decide) (hL.low h) mn_r1
  have CR2 := fun (W : World) (h : Below w.heap.size w W) => refused_any ⟨#[70, 40, 97]⟩ W (by decide) (hL.low h) mn_r2
  have CR3 := fun (W : World) (h : Below w.heap.size w W) => refused_any ⟨#[88, 32, 35, 35, 32, 49]⟩ W (by decide) (hL.low h) mn_r3
  have CR4 := fun (W : World) (h : Below w.heap.size w W) => refused_any ⟨#[70, 40, 97, 41, 32, 35, 98]⟩ W (by decide) (hL.low h) mn_r4
  have CR5 := fun (W : World) (h : Below w.heap.size w W) => refused_any ⟨#[70, 40, 97, 41, 32, 95, 95, 86, 65, 95, 65, 82, 71, 83, 95, 95]⟩ W (by decide) (hL.low h) mn_r5
  have CR6 := fun (W : World) (h : Below w.heap.size w W) => refused_any ⟨#[100, 101, 102, 105, 110, 101, 100]⟩ W (by decide) (hL.low h) mn_r6
  have CR7 := fun (W : World) (h : Below w.heap.size w W) => refused_any ⟨#[]⟩ W (by decide) (hL.low h) mn_r7
  have CR8 := fun (W : World) (h : Below w.heap.size w W) => refused_any ⟨#[70, 40, 97, 44, 41]⟩ W (by decide) (hL.low h) mn_r8
  have CR9 := fun (W : World) (h : Below w.heap.size w W) => refused_any ⟨#[70, 40, 46, 46, 46, 44, 32, 97, 41]⟩ W (by decide) (hL.low h) mn_r9
  have CR10 := fun (W : World) (h : Below w.heap.size w W) => refused_any ⟨#[70, 40, 97, 32, 98, 41]⟩ W (by decide) (hL.low h) mn_r10
  have CR11 := fun (W : World) (h : Below w.heap.size w W) => refused_any ⟨#[95, 95, 76, 73, 78, 69, 95, 95, 32, 49]⟩ W (by decide) (hL.low h) mn_r11
  have CR12 := fun (W : World) (h : Below w.heap.size w W) => refused_any ⟨#[70, 40, 41, 32, 97, 32, 37, 58, 37, 58]⟩ W (by decide) (hL.low h) mn_r12
  have CR13 := fun (W : World) (h : Below w.heap.size w W) => refused_any ⟨#[49]⟩ W (by decide) (hL.low h) mn_r13
  have CR14 := fun (W : World) (h : Below w.heap.size w W) => refused_any ⟨#[70, 40, 95, 95, 86, 65, 95, 65, 82, 71, 83, 95, 95, 41]⟩ W (by decide) (hL.low h) mn_r14
  have CR15 := fun (W : World) (h : Below w.heap.size w W) => refused_any ⟨#[70, 40, 97, 41, 32, 35]⟩ W (by decide) (hL.low h) mn_r15
  have e0 : txtV (some ⟨#[35, 100, 101, 102, 105, 110, 101, 32, 86, 40, 97, 44, 46, 46, 46, 41, 32, 97, 10]⟩) = .tuple #[.string ⟨#[35, 100, 101, 102, 105, 110, 101, 32, 86, 40, 97, 44, 46, 46, 46, 41, 32, 97, 10]⟩, .int .i64 0] := rfl
  have e1 : txtV none = .tuple #[.string ⟨#[]⟩, .int .i64 50] := rfl
  have CT0 := fun (pa ba : Option Addr) (pc bc : Nat) (W : World) (h1 : StrIn W pa [⟨#[97]⟩]) (h2 : PzIn W ba [⟨1, ⟨#[97]⟩, false, []⟩]) (h3 : LibVar W) => text_any ⟨⟨#[86]⟩, true, [⟨#[97]⟩], true, [⟨1, ⟨#[97]⟩, false, []⟩]⟩ pa ba 1 pc 1 bc W rfl rfl (by decide) (by decide) (by decide) h1 h2 h3
  have CT1 := fun (W : World) (h3 : LibVar W) => text_any ⟨⟨#[97, 32, 98]⟩, false, [], false, []⟩ none none 0 0 0 0 W rfl rfl (by decide) (by decide) (by decide) (fun hp => absurd hp (Nat.lt_irrefl 0)) (fun hp => absurd hp (Nat.lt_irrefl 0)) h3
  have CT2 := fun (ba : Option Addr) (W : World) (h2 : PzIn W ba [⟨5, ⟨#[43]⟩, false, []⟩, ⟨5, ⟨#[43]⟩, false, []⟩]) (h3 : LibVar W) => text_any ⟨⟨#[88]⟩, false, [], false, [⟨5, ⟨#[43]⟩, false, []⟩, ⟨5, ⟨#[43]⟩, false, []⟩]⟩ none ba 0 0 2 2 W rfl rfl (by decide) (by decide) (by decide) (fun hp => absurd hp (Nat.lt_irrefl 0)) h2 h3
  rw [mn_t0] at CT0
  rw [mn_t1] at CT1
  rw [mn_t2] at CT2
  simp only [e0, e1] at CT0 CT1 CT2
  clear e0 e1
  go_enter Try.func4, Try.ntmps4
  go_wp2_with fail
  refine (CDa _ (hL.low hB0)).mono ?_
  rintro e wa ⟨⟨va, ua, rfl, hra, hsa⟩, hba⟩
  obtain ⟨paa, pca, rfl⟩ := row_shape hra
  obtain ⟨baa, bca, rfl⟩ := row_shape hsa
  have hbMa := below1 wa (.cells #[.string ⟨#[88]⟩, .bool false, .slice paa 0 pca, .bool false, .slice baa 0 bca] 26)
  have hMa := MzBox.new wa (.string ⟨#[88]⟩) (.bool false) (.slice paa 0 pca) (.bool false) (.slice baa 0 bca)
  have hB1 := (hB0.trans (hba.mono hB0.size)).trans (hbMa.mono (hB0.trans (hba.mono hB0.size)).size)
  clear CDa hra hsa hba hbMa
  go_wp2_with fail
  refine (CDb _ (hL.low hB1)).mono ?_
  rintro e wb ⟨⟨vb, ub, rfl, hrb, hsb⟩, hbb⟩
  obtain ⟨pab, pcb, rfl⟩ := row_shape hrb
  obtain ⟨bab, bcb, rfl⟩ := row_shape hsb
  have hbMb := below1 wb (.cells #[.string ⟨#[70]⟩, .bool false, .slice pab 0 pcb, .bool false, .slice bab 4 bcb] 26)
  have hMb := MzBox.new wb (.string ⟨#[70]⟩) (.bool false) (.slice pab 0 pcb) (.bool false) (.slice bab 4 bcb)
  have hB2 := (hB1.trans (hbb.mono hB1.size)).trans (hbMb.mono (hB1.trans (hbb.mono hB1.size)).size)
  replace hMa := (hMa.below hbb).below hbMb
  clear CDb hrb hsb hbb hbMb
  go_wp2_with fail
  refine (CDc _ (hL.low hB2)).mono ?_
  rintro e wc ⟨⟨vc, uc, rfl, hrc, hsc⟩, hbc⟩
  obtain ⟨pac, pcc, rfl⟩ := row_shape hrc
  obtain ⟨bac, bcc, rfl⟩ := row_shape hsc
  have hbMc := below1 wc (.cells #[.string ⟨#[86]⟩, .bool true, .slice pac 0 pcc, .bool true, .slice bac 2 bcc] 26)
  have hMc := MzBox.new wc (.string ⟨#[86]⟩) (.bool true) (.slice pac 0 pcc) (.bool true) (.slice bac 2 bcc)
  have hB3 := (hB2.trans (hbc.mono hB2.size)).trans (hbMc.mono (hB2.trans (hbc.mono hB2.size)).size)
  replace hMa := (hMa.below hbc).below hbMc
  replace hMb := (hMb.below hbc).below hbMc
  clear CDc hrc hsc hbc hbMc
  go_wp2_with fail
  refine (CDd _ (hL.low hB3)).mono ?_
  rintro e wd ⟨⟨vd, ud, rfl, hrd, hsd⟩, hbd⟩
  obtain ⟨pad, pcd, rfl⟩ := row_shape hrd
  obtain ⟨bad, bcd, rfl⟩ := row_shape hsd
  have hbMd := below1 wd (.cells #[.string ⟨#[86]⟩, .bool true, .slice pad 1 pcd, .bool true, .slice bad 1 bcd] 26)
  have hMd := MzBox.new wd (.string ⟨#[86]⟩) (.bool true) (.slice pad 1 pcd) (.bool true) (.slice bad 1 bcd)
  have hB4 := (hB3.trans (hbd.mono hB3.size)).trans (hbMd.mono (hB3.trans (hbd.mono hB3.size)).size)
  replace hMa := (hMa.below hbd).below hbMd
  replace hMb := (hMb.below hbd).below hbMd
  replace hMc := (hMc.below hbd).below hbMd
  have h1 := (strIn_row (ss := [⟨#[97]⟩]) rfl hrd).below hbMd
  have h2 := (pzIn_row (ps := [⟨1, ⟨#[97]⟩, false, []⟩]) rfl (fun p hp => by rw [List.mem_singleton.1 hp]) hsd).below hbMd
  clear CDd hrd hsd hbd hbMd
  go_wp2_with fail
  refine (CDf _ (hL.low hB4)).mono ?_
  rintro e wf ⟨⟨vf, uf, rfl, hrf, hsf⟩, hbf⟩
  obtain ⟨paf, pcf, rfl⟩ := row_shape hrf
  obtain ⟨baf, bcf, rfl⟩ := row_shape hsf
  have hbMf := below1 wf (.cells #[.string ⟨#[79]⟩, .bool false, .slice paf 0 pcf, .bool false, .slice baf 3 bcf] 26)
  have hMf := MzBox.new wf (.string ⟨#[79]⟩) (.bool false) (.slice paf 0 pcf) (.bool false) (.slice baf 3 bcf)
  have hB5 := (hB4.trans (hbf.mono hB4.size)).trans (hbMf.mono (hB4.trans (hbf.mono hB4.size)).size)
  replace hMa := (hMa.below hbf).below hbMf
  replace hMb := (hMb.below hbf).below hbMf
  replace hMc := (hMc.below hbf).below hbMf
  replace hMd := (hMd.below hbf).below hbMf
  replace h1 := (h1.below hbf).below hbMf
  replace h2 := (h2.below hbf).below hbMf
  clear CDf hrf hsf hbf hbMf
  obtain ⟨a0, a1, a2, a3, a4, -, -, -, -, -⟩ := hMa.facts
  obtain ⟨b0, b1, b2, b3, b4, -, -, -, -, -⟩ := hMb.facts
  obtain ⟨c0, c1, c2, c3, c4, -, -, -, -, -⟩ := hMc.facts
  obtain ⟨d0, d1, d2, d3, d4, -, -, -, -, -⟩ := hMd.facts
  obtain ⟨f0, f1, f2, f3, f4, -, -, -, -, -⟩ := hMf.facts
  go_wp2_with fail
  clear a0 a1 a2 a3 a4
  clear hMa
  clear b0 b1 b2 b3 b4
  clear hMb
  clear c0 c1 c2 c3 c4
  clear hMc
  clear d0 d1 d2 d3 d4
  clear f0 f1 f2 f3 f4
  clear hMf
  refine (CR0 _ hB5).mono ?_
  rintro e wr0 ⟨rfl, hb⟩
  have hB6 := hB5.trans (hb.mono hB5.size)
  replace hMd := hMd.below hb
  replace h1 := h1.below hb
  replace h2 := h2.below hb
  clear CR0 hB5 hb
  go_wp2_with fail
  refine (CR1 _ hB6).mono ?_
  rintro e wr1 ⟨rfl, hb⟩
  have hB7 := hB6.trans (hb.mono hB6.size)
  replace hMd := hMd.below hb
  replace h1 := h1.below hb
  replace h2 := h2.below hb
  clear CR1 hB6 hb
  go_wp2_with fail
  refine (CR2 _ hB7).mono ?_
  rintro e wr2 ⟨rfl, hb⟩
  have hB8 := hB7.trans (hb.mono hB7.size)
  replace hMd := hMd.below hb
  replace h1 := h1.below hb
  replace h2 := h2.below hb
  clear CR2 hB7 hb
  go_wp2_with fail
  refine (CR3 _ hB8).mono ?_
  rintro e wr3 ⟨rfl, hb⟩
  have hB9 := hB8.trans (hb.mono hB8.size)
  replace hMd := hMd.below hb
  replace h1 := h1.below hb
  replace h2 := h2.below hb
  clear CR3 hB8 hb
  go_wp2_with fail
  refine (CR4 _ hB9).mono ?_
  rintro e wr4 ⟨rfl, hb⟩
  have hB10 := hB9.trans (hb.mono hB9.size)
  replace hMd := hMd.below hb
  replace h1 := h1.below hb
  replace h2 := h2.below hb
  clear CR4 hB9 hb
  go_wp2_with fail
  refine (CR5 _ hB10).mono ?_
  rintro e wr5 ⟨rfl, hb⟩
  have hB11 := hB10.trans (hb.mono hB10.size)
  replace hMd := hMd.below hb
  replace h1 := h1.below hb
  replace h2 := h2.below hb
  clear CR5 hB10 hb
  go_wp2_with fail
  refine (CR6 _ hB11).mono ?_
  rintro e wr6 ⟨rfl, hb⟩
  have hB12 := hB11.trans (hb.mono hB11.size)
  replace hMd := hMd.below hb
  replace h1 := h1.below hb
  replace h2 := h2.below hb
  clear CR6 hB11 hb
  go_wp2_with fail
  refine (CR7 _ hB12).mono ?_
  rintro e wr7 ⟨rfl, hb⟩
  have hB13 := hB12.trans (hb.mono hB12.size)
  replace hMd := hMd.below hb
  replace h1 := h1.below hb
  replace h2 := h2.below hb
  clear CR7 hB12 hb
  go_wp2_with fail
  refine (CR8 _ hB13).mono ?_
  rintro e wr8 ⟨rfl, hb⟩
  have hB14 := hB13.trans (hb.mono hB13.size)
  replace hMd := hMd.below hb
  replace h1 := h1.below hb
  replace h2 := h2.below hb
  clear CR8 hB13 hb
  go_wp2_with fail
  refine (CR9 _ hB14).mono ?_
  rintro e wr9 ⟨rfl, hb⟩
  have hB15 := hB14.trans (hb.mono hB14.size)
  replace hMd := hMd.below hb
  replace h1 := h1.below hb
  replace h2 := h2.below hb
  clear CR9 hB14 hb
  go_wp2_with fail
  refine (CR10 _ hB15).mono ?_
  rintro e wr10 ⟨rfl, hb⟩
  have hB16 := hB15.trans (hb.mono hB15.size)
  replace hMd := hMd.below hb
  replace h1 := h1.below hb
  replace h2 := h2.below hb
  clear CR10 hB15 hb
  go_wp2_with fail
  refine (CR11 _ hB16).mono ?_
  rintro e wr11 ⟨rfl, hb⟩
  have hB17 := hB16.trans (hb.mono hB16.size)
  replace hMd := hMd.below hb
  replace h1 := h1.below hb
  replace h2 := h2.below hb
  clear CR11 hB16 hb
  go_wp2_with fail
  refine (CR12 _ hB17).mono ?_
  rintro e wr12 ⟨rfl, hb⟩
  have hB18 := hB17.trans (hb.mono hB17.size)
  replace hMd := hMd.below hb
  replace h1 := h1.below hb
  replace h2 := h2.below hb
  clear CR12 hB17 hb
  go_wp2_with fail
  refine (CR13 _ hB18).mono ?_
  rintro e wr13 ⟨rfl, hb⟩
  have hB19 := hB18.trans (hb.mono hB18.size)
  replace hMd := hMd.below hb
  replace h1 := h1.below hb
  replace h2 := h2.below hb
  clear CR13 hB18 hb
  go_wp2_with fail
  refine (CR14 _ hB19).mono ?_
  rintro e wr14 ⟨rfl, hb⟩
  have hB20 := hB19.trans (hb.mono hB19.size)
  replace hMd := hMd.below hb
  replace h1 := h1.below hb
  replace h2 := h2.below hb
  clear CR14 hB19 hb
  go_wp2_with fail
  refine (CR15 _ hB20).mono ?_
  rintro e wr15 ⟨rfl, hb⟩
  have hB21 := hB20.trans (hb.mono hB20.size)
  replace hMd := hMd.below hb
  replace h1 := h1.below hb
  replace h2 := h2.below hb
  clear CR15 hB20 hb
  obtain ⟨d0, d1, d2, d3, d4, -, -, -, -, -⟩ := hMd.facts
  go_wp2_with fail
  refine (CT0 _ _ _ _ _ h1 h2 (hL.low hB21)).mono ?_
  rintro e wt0 ⟨rfl, hb⟩
  have hB22 := hB21.trans (hb.mono hB21.size)
  clear CT0 hB21 hb h1 h2 hMd d0 d1 d2 d3 d4
  go_wp2_with fail
  refine (CT1 _ (hL.low hB22)).mono ?_
  rintro e wt1 ⟨rfl, hb⟩
  have hB23 := hB22.trans (hb.mono hB22.size)
  clear CT1 hB22 hb
  have hbp := below1 wt1 (.cells #[.int .i64 5, .string ⟨#[43]⟩, .bool false, .slice none 0 0, .int .i64 5, .string ⟨#[43]⟩, .bool false, .slice none 0 0] 36)
  have hp := pz_two (World.alloc_heap_new wt1 (.cells #[.int .i64 5, .string ⟨#[43]⟩, .bool false, .slice none 0 0, .int .i64 5, .string ⟨#[43]⟩, .bool false, .slice none 0 0] 36))
  have hB24 := hB23.trans (hbp.mono hB23.size)
  clear hbp hB23
  go_wp2_with fail
  refine (CT2 _ _ hp (hL.low hB24)).mono ?_
  rintro e wt2 ⟨rfl, hb⟩
  have hB25 := hB24.trans (hb.mono hB24.size)
  clear CT2 hB24 hb hp
  go_wp2_with fail
  refine (CA _ hB25).mono ?_
  rintro e wa ⟨rfl, hb⟩
  have hB26 := hB25.trans (hb.mono hB25.size)
  clear CA hB25 hb
  go_wp2
  go_ret
  exact ⟨rfl, hB26⟩

end Go.Proofs.Ytaodjipnffgihaa
