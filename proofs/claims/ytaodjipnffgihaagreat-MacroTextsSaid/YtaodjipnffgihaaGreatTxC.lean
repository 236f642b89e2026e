/- macro.lineOf: a macro's line. -/
import Derived.Test.YtaodjipnffgihaaGreatTxA
import Derived.Test.YtaodjipnffgihaaGreatTxB
import Derived.Test.YtaodjipnffgihaaGreatMcL
namespace Go.Proofs.YtaodjipnffgihaaGreat
open Go.RowKit Go.Shelf

def defT : ByteArray := ⟨#[35, 100, 101, 102, 105, 110, 101, 32]⟩
def spB (i : Nat) (p : Pz) : List UInt8 := if i = 0 ∨ p.sp = true then [32] else []
def bodyT (i : Nat) : List Pz → List UInt8
  | [] => []
  | p :: r => spB i p ++ p.tx.data.toList ++ bodyT (i + 1) r
def headT (m : Mz) : List UInt8 := catS [defT, m.nm] ++ (if m.fn then catS [⟨#[40]⟩] ++ catS (parsS m) ++ catS [⟨#[41]⟩] else [])
def lineS (m : Mz) : List UInt8 := headT m ++ bodyT 0 m.bs ++ [10]
theorem bodyT_snoc (l : List Pz) (p : Pz) (i : Nat) : bodyT i (l ++ [p]) = bodyT i l ++ spB (i + l.length) p ++ p.tx.data.toList := by
  induction l generalizing i with
  | nil => simp [bodyT]
  | cons q r ih =>
    rw [List.cons_append, bodyT, ih, bodyT, List.length_cons]
    have e : i + 1 + r.length = i + (r.length + 1) := by omega
    rw [e]
    simp [List.append_assoc]
theorem bodyT_take {ps : List Pz} {k : Nat} {p : Pz} (h : ps[k]? = some p) : bodyT 0 (ps.take (k + 1)) = bodyT 0 (ps.take k) ++ spB k p ++ p.tx.data.toList := by
  have hl : (ps.take k).length = k := by rw [List.length_take]; have := (List.getElem?_eq_some_iff.1 h).1; omega
  rw [List.take_add_one, h]
  have := bodyT_snoc (ps.take k) p 0
  rw [hl, Nat.zero_add] at this
  exact this
theorem bodyT_le (ps : List Pz) (k i : Nat) : (bodyT i (ps.take k)).length ≤ (bodyT i ps).length := by
  induction ps generalizing k i with
  | nil => simp
  | cons p r ih =>
    cases k with
    | zero => simp [bodyT]
    | succ k =>
      rw [List.take_succ_cons, bodyT, bodyT]
      simp only [List.length_append]
      have := ih k (i + 1)
      omega
theorem builder_nil {W : World} {B b : Nat} (hB : B ≤ b) (h : W.heap[b]? = some (.cells #[.pointer none, .slice none 0 0] 61 (0, 0))) : Lib.IsBuilderF 61 5 B b (Lib.byteCells []) W :=
  .inl ⟨hB, _, h, ⟨rfl, .inl ⟨rfl, rfl⟩⟩, by simp [Value.ownBlock]⟩
theorem row_others {B b : Nat} {v : Value} {n : Nat} {xs : List Value} {w w' : World} (h : w.ownsRow B 9 1 v n xs) (hk : Lib.OthersKept 5 (some b) w w') (hne : ∀ j, v.ownBlock = some j → j ≠ b) : w'.ownsRow B 9 1 v n xs := by
  obtain ⟨h1, h2⟩ := h
  refine ⟨h1, ?_⟩
  rcases h2 with h2 | ⟨g, cap, cur, hv, hg, hh, r⟩
  · exact .inl h2
  · exact .inr ⟨g, cap, cur, hv, hg, hk g _ hh (fun e => hne g (by rw [hv]; rfl) (Option.some.inj e)) (fun c fz e => by injection e with _ e2; exact absurd e2 (by decide)), r⟩
theorem strIn_lit {b : Nat} {w w' : World} {B : Nat} {cs : Array Value} {ss : List ByteArray} (h : w.heap[B]? = some (.cells cs 9 (0, 0))) (hc : cs.toList = stV ss) (hne : B ≠ b) (hk : Lib.OthersKept 5 (some b) w w') : StrIn w' (some ⟨B, 0, none⟩) ss :=
  strIn_new (hk B _ h (fun e => hne (Option.some.inj e)) (fun c fz e => by injection e with _ e2; exact absurd e2 (by decide))) hc
theorem set_at {W : World} {P i : Nat} {x : Array Value} {T : TypeId} {fz : Nat × Nat} {u : Value} (h : W.heap[P]? = some (.cells x T fz)) : (W.setCell ⟨P, i, none⟩ u).heap[P]? = some (.cells (x.setIfInBounds i u) T fz) := by
  unfold World.setCell
  rw [Array.getElem?_modify, if_pos rfl, h]
  rfl
theorem builder_belowT {T e : TypeId} {B b : Nat} {bs : List Value} {W W' : World} (h : Lib.IsBuilderF T e B b bs W) (hb : Below W.heap.size W W') : Lib.IsBuilderF T e B b bs W' := by
  rcases h with h | h
  · have hlt := h.lt
    obtain ⟨h1, v, h2, h3, h4⟩ := h
    exact .inl ⟨h1, v, (hb.block b hlt).trans h2, h3.kept (row := none) ⟨hb.os, hb.tape, hb.output, hb.size, fun k hk _ => hb.block k hk⟩ (Classical.em _), h4⟩
  · have hlt := h.lt
    obtain ⟨h1, v, h2, h3, h4⟩ := h
    exact .inr ⟨h1, v, (hb.block b hlt).trans h2, h3.kept (row := none) ⟨hb.os, hb.tape, hb.output, hb.size, fun k hk _ => hb.block k hk⟩ (Classical.em _), h4⟩

set_option maxRecDepth 100000 in
set_option maxHeartbeats 8000000 in
theorem lineOf_any (m : Mz) (pa ba : Option Addr) (pn pc n bc : Nat) (w : World) (hpn : m.ps.length = pn) (hn : m.bs.length = n) (hp2 : pn ≤ 400) (hn2 : n ≤ 1000) (hfit : (lineS m).length ≤ 65536) (hT : StrIn w pa m.ps) (hB : PzIn w ba m.bs) :
    Calls Tryz.prog 11 #[.agg #[.string m.nm, .bool m.fn, .slice pa pn pc, .bool m.vr, .slice ba n bc]] w fun e w' => e = .returned (.tuple #[.string ⟨(lineS m).toArray⟩, .bool true]) ∧ Below w.heap.size w w' := by
  have hmf : ∀ (fn : Fn) (first cap : Array Value) (w : World), (Instr.makeFunc fn first cap).run Tryz.prog w = .ok (.func fn first cap) w := fun _ _ _ _ => rfl
  obtain ⟨f, hf⟩ : ∃ f, m.fn = f := ⟨_, rfl⟩
  have HFN := Lib.hid hf
  rw [hf]
  obtain ⟨w1, hw1⟩ : ∃ w1, ((w.alloc (.cells #[.string m.nm, .bool f, .slice pa pn pc, .bool m.vr, .slice ba n bc] 25)).alloc (.cells #[.bool true] 4)).alloc (.cells #[.pointer none, .slice none 0 0] 61) = w1 := ⟨_, rfl⟩
  have g0 := World.alloc_heap_new w (.cells #[.string m.nm, .bool f, .slice pa pn pc, .bool m.vr, .slice ba n bc] 25)
  have g1 := World.alloc_heap_new (w.alloc (.cells #[.string m.nm, .bool f, .slice pa pn pc, .bool m.vr, .slice ba n bc] 25)) (.cells #[.bool true] 4)
  have g2 := World.alloc_heap_new ((w.alloc (.cells #[.string m.nm, .bool f, .slice pa pn pc, .bool m.vr, .slice ba n bc] 25)).alloc (.cells #[.bool true] 4)) (.cells #[.pointer none, .slice none 0 0] 61)
  rw [World.size_alloc] at g1
  rw [World.size_alloc, World.size_alloc] at g2
  have q0 : w1.heap[w.heap.size]? = some (.cells #[.string m.nm, .bool f, .slice pa pn pc, .bool m.vr, .slice ba n bc] 25 (0, 0)) := by
    rw [← hw1, Below.heap_alloc _ _ _ (by simp; omega), Below.heap_alloc _ _ _ (by simp)]
    exact g0
  have q1 : w1.heap[w.heap.size + 1]? = some (.cells #[.bool true] 4 (0, 0)) := by
    rw [← hw1]
    exact (Below.heap_alloc _ _ _ (by simp)).trans g1
  have q2 : w1.heap[w.heap.size + 1 + 1]? = some (.cells #[.pointer none, .slice none 0 0] 61 (0, 0)) := by
    rw [← hw1]
    exact g2
  have qb : Below w.heap.size w w1 := by
    rw [← hw1]
    exact (((Below.refl w.heap.size w).alloc (Nat.le_refl _) _).alloc (by simp) _).alloc (by simp; omega) _
  have hs1 : w1.heap.size = w.heap.size + 1 + 1 + 1 := by
    rw [← hw1]; simp
  have HM : Hid (∀ W, Below (w.heap.size + 1 + 1) w1 W → W.cell? ⟨w.heap.size, 0, none⟩ = some (.string m.nm) ∧ W.cell? ⟨w.heap.size, 1, none⟩ = some (.bool f) ∧ W.cell? ⟨w.heap.size, 2, none⟩ = some (.slice pa pn pc) ∧ W.cell? ⟨w.heap.size, 3, none⟩ = some (.bool m.vr) ∧ W.cell? ⟨w.heap.size, 4, none⟩ = some (.slice ba n bc)) := Lib.hid (fun W h => by
    have hq := (h.block w.heap.size (by omega)).trans q0
    refine ⟨?_, ?_, ?_, ?_, ?_⟩
    all_goals (rw [Lib.cell_of_heap hq]; rfl))
  have HI : Hid (∀ W, Below (w.heap.size + 1 + 1) w1 W → W.heap[w.heap.size + 1]? = some (.cells #[.bool true] 4 (0, 0))) := Lib.hid (fun W h => (h.block _ (by omega)).trans q1)
  have HT : Hid (∀ W, Below (w.heap.size + 1 + 1) w1 W → StrIn W pa m.ps) := Lib.hid (fun W h => hT.below (qb.trans (h.mono (by omega))))
  have HB : Hid (∀ W, Below (w.heap.size + 1 + 1) w1 W → PzIn W ba m.bs) := Lib.hid (fun W h => hB.below (qb.trans (h.mono (by omega))))
  have HQ : Hid (∀ W, Below (w.heap.size + 1 + 1) w1 W → Below w.heap.size w W) := Lib.hid (fun W h => qb.trans (h.mono (by omega)))
  have hb0 : Lib.IsBuilderF 61 5 (w.heap.size + 1 + 1) (w.heap.size + 1 + 1) (Lib.byteCells []) w1 := builder_nil (Nat.le_refl _) q2
  have hx0 : Below (w.heap.size + 1 + 1) w1 w1 := Below.refl _ _
  have HN := Lib.hid hn
  have HPN := Lib.hid hpn
  have HF := Lib.hid hfit
  obtain ⟨m00, m01, -, -, -⟩ := HM.out w1 hx0
  clear g0 g1 g2 q0 q1 q2 qb hT hB hn hpn hfit
  have z0 : w.heap.size + 1 + 1 + 1 ≤ w1.heap.size := by omega
  have HH : Hid (headT m = catS [defT, m.nm] ++ (if f then catS [⟨#[40]⟩] ++ catS (parsS m) ++ catS [⟨#[41]⟩] else [])) := Lib.hid (by unfold headT; rw [hf])
  have hf1 : ([] : List UInt8).length + (catS [defT, m.nm]).length ≤ 65536 := by
    have := HF.out
    unfold lineS at this
    rw [HH.out] at this
    simp only [List.length_append, List.length_nil] at this ⊢
    omega
  clear hf
  go_enter Tryz.func11, Tryz.ntmps11
  go_wp2_with fail
  rw [← hs1]
  clear hw1
  refine (write_any (w.heap.size + 1 + 1) (w.heap.size + 1 + 1) (w.heap.size + 1) 2 2 [] [defT, m.nm] _ _ rfl (by decide) hf1 (HI.out _ (hx0.alloc (by omega) _)) (by simp) (hb0.alloc _) (by simp; omega) (fun W hk => strIn_lit (World.alloc_heap_new w1 (.cells #[.string defT, .string m.nm] 9)) rfl (by omega) hk)).mono ?_; rintro e u1 ⟨rfl, hb1, hl1, hk1⟩; have hx1 := (hx0.alloc (by omega) (.cells #[.string defT, .string m.nm] 9)).trans hl1; have z1 : w.heap.size + 1 + 1 + 1 ≤ u1.heap.size := (by have h9 := hl1.size; rw [World.size_alloc] at h9; omega); obtain ⟨m10, m11, m12, m13, m14⟩ := HM.out u1 hx1; rw [List.nil_append] at hb1
  clear m00 m01 hb0 hf1
  cases f with
  | false =>
    go_wp2

    go_loopg [29] n (fun g i wx => ∃ k : Nat, k ≤ n ∧ i = .int .i64 k ∧ g = n - k ∧ Lib.IsBuilderF 61 5 (w.heap.size + 1 + 1) (w.heap.size + 1 + 1) (Lib.byteCells (headT m ++ bodyT 0 (m.bs.take k))) wx ∧ Below (w.heap.size + 1 + 1) w1 wx)
    case atStart => exact ⟨0, Nat.zero_le _, rfl, rfl, by rw [List.take_zero, bodyT, List.append_nil, HH.out]; exact (by simpa using hb1), hx1⟩
    case round =>
      obtain ⟨k, hk, rfl, rfl, hbr, hxr⟩ := hrel
      have zr : w.heap.size + 1 + 1 + 1 ≤ wr.heap.size := Nat.le_trans z0 hxr.size
      by_cases hlt : k < n
      · obtain ⟨p, hp⟩ : ∃ p, m.bs[k]? = some p := ⟨_, List.getElem?_eq_getElem (by rw [HN.out]; exact hlt)⟩
        obtain ⟨b, o, rfl, hg, hr⟩ := HB.out wr hxr (by rw [HN.out]; omega)
        obtain ⟨c0, c1, c2, pa2, pc2, c3, -, -⟩ := hr k p hp
        have hs2 := bodyT_take hp
        have hfit2 : (headT m ++ bodyT 0 (m.bs.take k)).length + ((spB k p).length + p.tx.data.toList.length) ≤ 65536 := by
          have h1 := bodyT_le m.bs (k + 1) 0
          rw [hs2] at h1
          have := HF.out
          unfold lineS at this
          simp only [List.length_append] at this h1 ⊢
          omega
        have HS2 : Hid (headT m ++ bodyT 0 (m.bs.take (k + 1)) = headT m ++ bodyT 0 (m.bs.take k) ++ spB k p ++ p.tx.data.toList) := Lib.hid (by rw [hs2]; simp [List.append_assoc])
        have j1 : (k : Int) < (n : Int) := by omega
        have j0 : (0 : Int) ≤ (k : Int) := by omega
        clear hr hp hs2
        obtain ⟨wt, hwt⟩ : ∃ wt, wr.alloc (.cells #[.int .i64 p.k, .string p.tx, .bool p.sp, .slice pa2 p.ps.length pc2] 35) = wt := ⟨_, rfl⟩
        have t7 := World.alloc_heap_new wr (.cells #[.int .i64 p.k, .string p.tx, .bool p.sp, .slice pa2 p.ps.length pc2] 35)
        have hst : wt.heap.size = wr.heap.size + 1 := by rw [← hwt]; simp
        have hxt := hxr.alloc (by omega) (.cells #[.int .i64 p.k, .string p.tx, .bool p.sp, .slice pa2 p.ps.length pc2] 35)
        have hbt := hbr.alloc (.cells #[.int .i64 p.k, .string p.tx, .bool p.sp, .slice pa2 p.ps.length pc2] 35)
        rw [hwt] at t7 hxt hbt
        have zt : w.heap.size + 1 + 1 + 1 ≤ wt.heap.size := by omega
        have d1 : wt.cell? ⟨wr.heap.size, 1, none⟩ = some (.string p.tx) := by rw [Lib.cell_of_heap t7]; rfl
        have d2 : wt.cell? ⟨wr.heap.size, 2, none⟩ = some (.bool p.sp) := by rw [Lib.cell_of_heap t7]; rfl
        have hT7 := Lib.hid t7
        clear t7
        have hone : (catS [p.tx]).length = p.tx.data.toList.length := by rw [catS_one]
        by_cases hno : k ≠ 0 ∧ p.sp = false
        · have hsb : Hid (spB k p = []) := Lib.hid (if_neg (by rintro (h | h); exact hno.1 h; rw [hno.2] at h; cases h))
          have hf7 : (headT m ++ bodyT 0 (m.bs.take k)).length + (catS [p.tx]).length ≤ 65536 := by
            rw [hone]; omega
          have j2 : ((k : Int) == 0) = false := by
            have := hno.1
            exact beq_false_of_ne (by omega)
          rw [hno.2] at d2 c2 hwt
          clear hno hone
          go_wp2_with fail
          rw [← hst]
          refine (write_any (w.heap.size + 1 + 1) (w.heap.size + 1 + 1) (w.heap.size + 1) 1 1 (headT m ++ bodyT 0 (m.bs.take k)) [p.tx] _ _ rfl (by decide) hf7 (HI.out _ (hxt.alloc (by omega) _)) (by simp) (hbt.alloc _) (by simp; omega) (fun W hk => strIn_lit (World.alloc_heap_new wt (.cells #[.string p.tx] 9)) rfl (by omega) hk)).mono ?_; rintro e u7 ⟨rfl, hb7, hl7, hk7⟩; have hx7 := (hxt.alloc (by omega) (.cells #[.string p.tx] 9)).trans hl7; have z7 : w.heap.size + 1 + 1 + 1 ≤ u7.heap.size := (by have h9 := hl7.size; rw [World.size_alloc] at h9; omega)
          go_wp2
          go_roundg (n - (k + 1))
          case rel =>
            refine ⟨k + 1, by omega, by go_num, rfl, ?_, hx7⟩
            rw [HS2.out, hsb.out, List.append_nil, ← catS_one]
            exact hb7
          case measure => omega
        · have hsb : Hid (spB k p = catS [⟨#[32]⟩]) := Lib.hid (if_pos (by
            by_cases h : k = 0
            · exact .inl h
            · cases hs : p.sp with
              | true => exact .inr rfl
              | false => exact absurd ⟨h, hs⟩ hno))
          have hf8 : (headT m ++ bodyT 0 (m.bs.take k)).length + (catS [⟨#[32]⟩]).length ≤ 65536 := by
            rw [hsb.out] at hfit2; omega
          have hf7 : (headT m ++ bodyT 0 (m.bs.take k) ++ catS [⟨#[32]⟩]).length + (catS [p.tx]).length ≤ 65536 := by
            rw [hsb.out] at hfit2; rw [hone, List.length_append]; omega
          have hcs : (((k : Int) == 0) = true) ∨ (((k : Int) == 0) = false ∧ p.sp = true) := by
            by_cases h : k = 0
            · exact .inl (by rw [h]; rfl)
            · refine .inr ⟨beq_false_of_ne (by omega), ?_⟩
              cases hs : p.sp with
              | true => rfl
              | false => exact absurd ⟨h, hs⟩ hno
          clear hno hone hfit2
          rcases hcs with j2 | ⟨j2, j3⟩
          · go_wp2_with fail
            rw [← hst]
            refine (write_any (w.heap.size + 1 + 1) (w.heap.size + 1 + 1) (w.heap.size + 1) 1 1 (headT m ++ bodyT 0 (m.bs.take k)) [⟨#[32]⟩] _ _ rfl (by decide) hf8 (HI.out _ (hxt.alloc (by omega) _)) (by simp) (hbt.alloc _) (by simp; omega) (fun W hk => strIn_lit (World.alloc_heap_new wt (.cells #[.string ⟨#[32]⟩] 9)) rfl (by omega) hk)).mono ?_; rintro e u8 ⟨rfl, hb8, hl8, hk8⟩; have hx8 := (hxt.alloc (by omega) (.cells #[.string ⟨#[32]⟩] 9)).trans hl8; have z8 : w.heap.size + 1 + 1 + 1 ≤ u8.heap.size := (by have h9 := hl8.size; rw [World.size_alloc] at h9; omega)
            have t8 := hk8 wr.heap.size _ ((Below.heap_alloc _ _ _ (by omega)).trans hT7.out) (fun e => by have := Option.some.inj e; omega) (fun c fz e => by injection e with _ e2; exact absurd e2 (by decide))
            have d8 : u8.cell? ⟨wr.heap.size, 1, none⟩ = some (.string p.tx) := by rw [Lib.cell_of_heap t8]; rfl
            clear t8 d1 d2 hbt
            go_wp2_with fail
            refine (write_any (w.heap.size + 1 + 1) (w.heap.size + 1 + 1) (w.heap.size + 1) 1 1 (headT m ++ bodyT 0 (m.bs.take k) ++ catS [⟨#[32]⟩]) [p.tx] _ _ rfl (by decide) hf7 (HI.out _ (hx8.alloc (by omega) _)) (by simp) (hb8.alloc _) (by simp; omega) (fun W hk => strIn_lit (World.alloc_heap_new u8 (.cells #[.string p.tx] 9)) rfl (by omega) hk)).mono ?_; rintro e u7 ⟨rfl, hb7, hl7, hk7⟩; have hx7 := (hx8.alloc (by omega) (.cells #[.string p.tx] 9)).trans hl7; have z7 : w.heap.size + 1 + 1 + 1 ≤ u7.heap.size := (by have h9 := hl7.size; rw [World.size_alloc] at h9; omega)
            go_wp2
            go_roundg (n - (k + 1))
            case rel =>
              refine ⟨k + 1, by omega, by go_num, rfl, ?_, hx7⟩
              rw [HS2.out, hsb.out, ← catS_one]
              exact hb7
            case measure => omega
          · rw [j3] at d2 c2 hwt
            go_wp2_with fail
            rw [← hst]
            refine (write_any (w.heap.size + 1 + 1) (w.heap.size + 1 + 1) (w.heap.size + 1) 1 1 (headT m ++ bodyT 0 (m.bs.take k)) [⟨#[32]⟩] _ _ rfl (by decide) hf8 (HI.out _ (hxt.alloc (by omega) _)) (by simp) (hbt.alloc _) (by simp; omega) (fun W hk => strIn_lit (World.alloc_heap_new wt (.cells #[.string ⟨#[32]⟩] 9)) rfl (by omega) hk)).mono ?_; rintro e u8 ⟨rfl, hb8, hl8, hk8⟩; have hx8 := (hxt.alloc (by omega) (.cells #[.string ⟨#[32]⟩] 9)).trans hl8; have z8 : w.heap.size + 1 + 1 + 1 ≤ u8.heap.size := (by have h9 := hl8.size; rw [World.size_alloc] at h9; omega)
            have t8 := hk8 wr.heap.size _ ((Below.heap_alloc _ _ _ (by omega)).trans hT7.out) (fun e => by have := Option.some.inj e; omega) (fun c fz e => by injection e with _ e2; exact absurd e2 (by decide))
            have d8 : u8.cell? ⟨wr.heap.size, 1, none⟩ = some (.string p.tx) := by rw [Lib.cell_of_heap t8]; rfl
            clear t8 d1 d2 hbt
            go_wp2_with fail
            refine (write_any (w.heap.size + 1 + 1) (w.heap.size + 1 + 1) (w.heap.size + 1) 1 1 (headT m ++ bodyT 0 (m.bs.take k) ++ catS [⟨#[32]⟩]) [p.tx] _ _ rfl (by decide) hf7 (HI.out _ (hx8.alloc (by omega) _)) (by simp) (hb8.alloc _) (by simp; omega) (fun W hk => strIn_lit (World.alloc_heap_new u8 (.cells #[.string p.tx] 9)) rfl (by omega) hk)).mono ?_; rintro e u7 ⟨rfl, hb7, hl7, hk7⟩; have hx7 := (hx8.alloc (by omega) (.cells #[.string p.tx] 9)).trans hl7; have z7 : w.heap.size + 1 + 1 + 1 ≤ u7.heap.size := (by have h9 := hl7.size; rw [World.size_alloc] at h9; omega)
            go_wp2
            go_roundg (n - (k + 1))
            case rel =>
              refine ⟨k + 1, by omega, by go_num, rfl, ?_, hx7⟩
              rw [HS2.out, hsb.out, ← catS_one]
              exact hb7
            case measure => omega
      · obtain rfl : k = n := by omega
        have HA : Hid (m.bs.take k = m.bs) := Lib.hid (List.take_of_length_le (by rw [HN.out]; exact Nat.le_refl _))
        rw [HA.out] at hbr
        have j1 : ¬ (k : Int) < (k : Int) := by omega
        have hf9 : (headT m ++ bodyT 0 m.bs).length + (catS [⟨#[10]⟩]).length ≤ 65536 := by
          have := HF.out
          unfold lineS at this
          rw [List.length_append] at this
          exact this
        go_wp2_with fail
        refine (write_any (w.heap.size + 1 + 1) (w.heap.size + 1 + 1) (w.heap.size + 1) 1 1 (headT m ++ bodyT 0 m.bs) [⟨#[10]⟩] _ _ rfl (by decide) hf9 (HI.out _ (hxr.alloc (by omega) _)) (by simp) (hbr.alloc _) (by simp; omega) (fun W hk => strIn_lit (World.alloc_heap_new wr (.cells #[.string ⟨#[10]⟩] 9)) rfl (by omega) hk)).mono ?_; rintro e u9 ⟨rfl, hb9, hl9, hk9⟩; have hx9 := (hxr.alloc (by omega) (.cells #[.string ⟨#[10]⟩] 9)).trans hl9; have z9 : w.heap.size + 1 + 1 + 1 ≤ u9.heap.size := (by have h9 := hl9.size; rw [World.size_alloc] at h9; omega)
        have CS := Tryz.Builder_String_any_k _ _ _ _ hb9 (by omega)
        have i9 := HI.out _ hx9
        have i9c : u9.cell? ⟨w.heap.size + 1, 0, none⟩ = some (.bool true) := by rw [Lib.cell_of_heap i9]; rfl
        go_wp2_with fail
        refine CS.mono ?_
        rintro e v9 ⟨rfl, -, hl10, -⟩
        have hx10 := hx9.trans hl10
        have i10 := HI.out _ hx10
        have i10c : v9.cell? ⟨w.heap.size + 1, 0, none⟩ = some (.bool true) := by rw [Lib.cell_of_heap i10]; rfl
        have i10f : v9.frozen? ⟨w.heap.size + 1, 0, none⟩ = false := Lib.frozen_of_heap i10 0
        have hsame := setCell_same i10c
        go_wp2
        refine bodyPost_ret (v := .tuple #[.string ⟨(headT m ++ (bodyT 0 m.bs ++ catS [⟨#[10]⟩])).toArray⟩, .bool true]) (by simp [results, Tryz.results11, go_sem, i10c]) rfl ?_
        refine ⟨?_, HQ.out _ hx10⟩
        rw [lineS, List.append_assoc]
        rfl

  | true =>
    have HH2 : Hid (headT m = catS [defT, m.nm] ++ catS [⟨#[40]⟩] ++ catS (parsS m) ++ catS [⟨#[41]⟩]) := Lib.hid (by rw [HH.out]; simp [List.append_assoc])
    have hfa : (catS [defT, m.nm]).length + ((catS [⟨#[40]⟩]).length + ((catS (parsS m)).length + (catS [⟨#[41]⟩]).length)) ≤ 65536 := by
      have := HF.out
      unfold lineS at this
      rw [HH2.out] at this
      simp only [List.length_append] at this
      omega
    have hf2 : (catS [defT, m.nm]).length + (catS [⟨#[40]⟩]).length ≤ 65536 := by omega
    have hf3 : (catS [defT, m.nm] ++ catS [⟨#[40]⟩]).length + (catS (parsS m)).length ≤ 65536 := by rw [List.length_append]; omega
    have hf4 : (catS [defT, m.nm] ++ catS [⟨#[40]⟩] ++ catS (parsS m)).length + (catS [⟨#[41]⟩]).length ≤ 65536 := by rw [List.length_append, List.length_append]; omega
    clear hfa
    go_wp2_with fail
    refine (write_any (w.heap.size + 1 + 1) (w.heap.size + 1 + 1) (w.heap.size + 1) 1 1 (catS [defT, m.nm]) [⟨#[40]⟩] _ _ rfl (by decide) hf2 (HI.out _ (hx1.alloc (by omega) _)) (by simp) (hb1.alloc _) (by simp; omega) (fun W hk => strIn_lit (World.alloc_heap_new u1 (.cells #[.string ⟨#[40]⟩] 9)) rfl (by omega) hk)).mono ?_; rintro e u2 ⟨rfl, hb2, hl2, hk2⟩; have hx2 := (hx1.alloc (by omega) (.cells #[.string ⟨#[40]⟩] 9)).trans hl2; have z2 : w.heap.size + 1 + 1 + 1 ≤ u2.heap.size := (by have h9 := hl2.size; rw [World.size_alloc] at h9; omega)
    obtain ⟨n20, n21, n22, n23, n24⟩ := HM.out u2 hx2
    clear m10 m11 m12 m13 m14 hb1
    have CP := parsOf_any m pa pc (.slice ba n bc) u2 (by rw [HPN.out]; omega) (HT.out u2 hx2)
    rw [HPN.out, HFN.out] at CP
    go_wp2_with fail
    refine CP.mono ?_
    rintro e u5 ⟨⟨v5, rfl, hr5⟩, hl5⟩
    obtain ⟨a5, c5, rfl⟩ := row_shape hr5
    have hx5 := hx2.trans (hl5.mono (by omega))
    have hb5 := builder_belowT hb2 hl5
    have hL5 := hr5.lt
    have z5 : w.heap.size + 1 + 1 + 1 ≤ u5.heap.size := by have := hl5.size; omega
    have hlp : (parsS m).length ≤ 1000 := by
      have h := commaS_len m.ps
      rw [HPN.out] at h
      unfold parsS
      split
      · split
        · simp
        · simp only [List.length_append, List.length_cons, List.length_nil]; omega
      · omega
    have HLP := Lib.hid hlp
    clear hlp CP
    go_wp2_with fail
    refine (write_any (w.heap.size + 1 + 1) (w.heap.size + 1 + 1) (w.heap.size + 1) _ _ (catS [defT, m.nm] ++ catS [⟨#[40]⟩]) (parsS m) _ _ rfl HLP.out hf3 (HI.out _ hx5) (by simp) hb5 (by omega) (fun W hk => strIn_row rfl (row_others hr5 hk (fun j e => by have := (hL5 j e).1; omega)))).mono ?_
    rintro e u3 ⟨rfl, hb3, hl3, -⟩
    have hx3 := hx5.trans hl3
    have z3 : w.heap.size + 1 + 1 + 1 ≤ u3.heap.size := by have := hl3.size; omega
    clear hr5 hL5 hb5 hb2 n20 n21 n22 n23 n24
    go_wp2_with fail
    refine (write_any (w.heap.size + 1 + 1) (w.heap.size + 1 + 1) (w.heap.size + 1) 1 1 (catS [defT, m.nm] ++ catS [⟨#[40]⟩] ++ catS (parsS m)) [⟨#[41]⟩] _ _ rfl (by decide) hf4 (HI.out _ (hx3.alloc (by omega) _)) (by simp) (hb3.alloc _) (by simp; omega) (fun W hk => strIn_lit (World.alloc_heap_new u3 (.cells #[.string ⟨#[41]⟩] 9)) rfl (by omega) hk)).mono ?_; rintro e u4 ⟨rfl, hb4, hl4, hk4⟩; have hx4 := (hx3.alloc (by omega) (.cells #[.string ⟨#[41]⟩] 9)).trans hl4; have z4 : w.heap.size + 1 + 1 + 1 ≤ u4.heap.size := (by have h9 := hl4.size; rw [World.size_alloc] at h9; omega)
    obtain ⟨p40, p41, p42, p43, p44⟩ := HM.out u4 hx4
    clear hb3
    go_wp2

    go_loopg [29] n (fun g i wx => ∃ k : Nat, k ≤ n ∧ i = .int .i64 k ∧ g = n - k ∧ Lib.IsBuilderF 61 5 (w.heap.size + 1 + 1) (w.heap.size + 1 + 1) (Lib.byteCells (headT m ++ bodyT 0 (m.bs.take k))) wx ∧ Below (w.heap.size + 1 + 1) w1 wx)
    case atStart => exact ⟨0, Nat.zero_le _, rfl, rfl, by rw [List.take_zero, bodyT, List.append_nil, HH2.out]; exact hb4, hx4⟩
    case round =>
      obtain ⟨k, hk, rfl, rfl, hbr, hxr⟩ := hrel
      have zr : w.heap.size + 1 + 1 + 1 ≤ wr.heap.size := Nat.le_trans z0 hxr.size
      by_cases hlt : k < n
      · obtain ⟨p, hp⟩ : ∃ p, m.bs[k]? = some p := ⟨_, List.getElem?_eq_getElem (by rw [HN.out]; exact hlt)⟩
        obtain ⟨b, o, rfl, hg, hr⟩ := HB.out wr hxr (by rw [HN.out]; omega)
        obtain ⟨c0, c1, c2, pa2, pc2, c3, -, -⟩ := hr k p hp
        have hs2 := bodyT_take hp
        have hfit2 : (headT m ++ bodyT 0 (m.bs.take k)).length + ((spB k p).length + p.tx.data.toList.length) ≤ 65536 := by
          have h1 := bodyT_le m.bs (k + 1) 0
          rw [hs2] at h1
          have := HF.out
          unfold lineS at this
          simp only [List.length_append] at this h1 ⊢
          omega
        have HS2 : Hid (headT m ++ bodyT 0 (m.bs.take (k + 1)) = headT m ++ bodyT 0 (m.bs.take k) ++ spB k p ++ p.tx.data.toList) := Lib.hid (by rw [hs2]; simp [List.append_assoc])
        have j1 : (k : Int) < (n : Int) := by omega
        have j0 : (0 : Int) ≤ (k : Int) := by omega
        clear hr hp hs2
        obtain ⟨wt, hwt⟩ : ∃ wt, wr.alloc (.cells #[.int .i64 p.k, .string p.tx, .bool p.sp, .slice pa2 p.ps.length pc2] 35) = wt := ⟨_, rfl⟩
        have t7 := World.alloc_heap_new wr (.cells #[.int .i64 p.k, .string p.tx, .bool p.sp, .slice pa2 p.ps.length pc2] 35)
        have hst : wt.heap.size = wr.heap.size + 1 := by rw [← hwt]; simp
        have hxt := hxr.alloc (by omega) (.cells #[.int .i64 p.k, .string p.tx, .bool p.sp, .slice pa2 p.ps.length pc2] 35)
        have hbt := hbr.alloc (.cells #[.int .i64 p.k, .string p.tx, .bool p.sp, .slice pa2 p.ps.length pc2] 35)
        rw [hwt] at t7 hxt hbt
        have zt : w.heap.size + 1 + 1 + 1 ≤ wt.heap.size := by omega
        have d1 : wt.cell? ⟨wr.heap.size, 1, none⟩ = some (.string p.tx) := by rw [Lib.cell_of_heap t7]; rfl
        have d2 : wt.cell? ⟨wr.heap.size, 2, none⟩ = some (.bool p.sp) := by rw [Lib.cell_of_heap t7]; rfl
        have hT7 := Lib.hid t7
        clear t7
        have hone : (catS [p.tx]).length = p.tx.data.toList.length := by rw [catS_one]
        by_cases hno : k ≠ 0 ∧ p.sp = false
        · have hsb : Hid (spB k p = []) := Lib.hid (if_neg (by rintro (h | h); exact hno.1 h; rw [hno.2] at h; cases h))
          have hf7 : (headT m ++ bodyT 0 (m.bs.take k)).length + (catS [p.tx]).length ≤ 65536 := by
            rw [hone]; omega
          have j2 : ((k : Int) == 0) = false := by
            have := hno.1
            exact beq_false_of_ne (by omega)
          rw [hno.2] at d2 c2 hwt
          clear hno hone
          go_wp2_with fail
          rw [← hst]
          refine (write_any (w.heap.size + 1 + 1) (w.heap.size + 1 + 1) (w.heap.size + 1) 1 1 (headT m ++ bodyT 0 (m.bs.take k)) [p.tx] _ _ rfl (by decide) hf7 (HI.out _ (hxt.alloc (by omega) _)) (by simp) (hbt.alloc _) (by simp; omega) (fun W hk => strIn_lit (World.alloc_heap_new wt (.cells #[.string p.tx] 9)) rfl (by omega) hk)).mono ?_; rintro e u7 ⟨rfl, hb7, hl7, hk7⟩; have hx7 := (hxt.alloc (by omega) (.cells #[.string p.tx] 9)).trans hl7; have z7 : w.heap.size + 1 + 1 + 1 ≤ u7.heap.size := (by have h9 := hl7.size; rw [World.size_alloc] at h9; omega)
          go_wp2
          go_roundg (n - (k + 1))
          case rel =>
            refine ⟨k + 1, by omega, by go_num, rfl, ?_, hx7⟩
            rw [HS2.out, hsb.out, List.append_nil, ← catS_one]
            exact hb7
          case measure => omega
        · have hsb : Hid (spB k p = catS [⟨#[32]⟩]) := Lib.hid (if_pos (by
            by_cases h : k = 0
            · exact .inl h
            · cases hs : p.sp with
              | true => exact .inr rfl
              | false => exact absurd ⟨h, hs⟩ hno))
          have hf8 : (headT m ++ bodyT 0 (m.bs.take k)).length + (catS [⟨#[32]⟩]).length ≤ 65536 := by
            rw [hsb.out] at hfit2; omega
          have hf7 : (headT m ++ bodyT 0 (m.bs.take k) ++ catS [⟨#[32]⟩]).length + (catS [p.tx]).length ≤ 65536 := by
            rw [hsb.out] at hfit2; rw [hone, List.length_append]; omega
          have hcs : (((k : Int) == 0) = true) ∨ (((k : Int) == 0) = false ∧ p.sp = true) := by
            by_cases h : k = 0
            · exact .inl (by rw [h]; rfl)
            · refine .inr ⟨beq_false_of_ne (by omega), ?_⟩
              cases hs : p.sp with
              | true => rfl
              | false => exact absurd ⟨h, hs⟩ hno
          clear hno hone hfit2
          rcases hcs with j2 | ⟨j2, j3⟩
          · go_wp2_with fail
            rw [← hst]
            refine (write_any (w.heap.size + 1 + 1) (w.heap.size + 1 + 1) (w.heap.size + 1) 1 1 (headT m ++ bodyT 0 (m.bs.take k)) [⟨#[32]⟩] _ _ rfl (by decide) hf8 (HI.out _ (hxt.alloc (by omega) _)) (by simp) (hbt.alloc _) (by simp; omega) (fun W hk => strIn_lit (World.alloc_heap_new wt (.cells #[.string ⟨#[32]⟩] 9)) rfl (by omega) hk)).mono ?_; rintro e u8 ⟨rfl, hb8, hl8, hk8⟩; have hx8 := (hxt.alloc (by omega) (.cells #[.string ⟨#[32]⟩] 9)).trans hl8; have z8 : w.heap.size + 1 + 1 + 1 ≤ u8.heap.size := (by have h9 := hl8.size; rw [World.size_alloc] at h9; omega)
            have t8 := hk8 wr.heap.size _ ((Below.heap_alloc _ _ _ (by omega)).trans hT7.out) (fun e => by have := Option.some.inj e; omega) (fun c fz e => by injection e with _ e2; exact absurd e2 (by decide))
            have d8 : u8.cell? ⟨wr.heap.size, 1, none⟩ = some (.string p.tx) := by rw [Lib.cell_of_heap t8]; rfl
            clear t8 d1 d2 hbt
            go_wp2_with fail
            refine (write_any (w.heap.size + 1 + 1) (w.heap.size + 1 + 1) (w.heap.size + 1) 1 1 (headT m ++ bodyT 0 (m.bs.take k) ++ catS [⟨#[32]⟩]) [p.tx] _ _ rfl (by decide) hf7 (HI.out _ (hx8.alloc (by omega) _)) (by simp) (hb8.alloc _) (by simp; omega) (fun W hk => strIn_lit (World.alloc_heap_new u8 (.cells #[.string p.tx] 9)) rfl (by omega) hk)).mono ?_; rintro e u7 ⟨rfl, hb7, hl7, hk7⟩; have hx7 := (hx8.alloc (by omega) (.cells #[.string p.tx] 9)).trans hl7; have z7 : w.heap.size + 1 + 1 + 1 ≤ u7.heap.size := (by have h9 := hl7.size; rw [World.size_alloc] at h9; omega)
            go_wp2
            go_roundg (n - (k + 1))
            case rel =>
              refine ⟨k + 1, by omega, by go_num, rfl, ?_, hx7⟩
              rw [HS2.out, hsb.out, ← catS_one]
              exact hb7
            case measure => omega
          · rw [j3] at d2 c2 hwt
            go_wp2_with fail
            rw [← hst]
            refine (write_any (w.heap.size + 1 + 1) (w.heap.size + 1 + 1) (w.heap.size + 1) 1 1 (headT m ++ bodyT 0 (m.bs.take k)) [⟨#[32]⟩] _ _ rfl (by decide) hf8 (HI.out _ (hxt.alloc (by omega) _)) (by simp) (hbt.alloc _) (by simp; omega) (fun W hk => strIn_lit (World.alloc_heap_new wt (.cells #[.string ⟨#[32]⟩] 9)) rfl (by omega) hk)).mono ?_; rintro e u8 ⟨rfl, hb8, hl8, hk8⟩; have hx8 := (hxt.alloc (by omega) (.cells #[.string ⟨#[32]⟩] 9)).trans hl8; have z8 : w.heap.size + 1 + 1 + 1 ≤ u8.heap.size := (by have h9 := hl8.size; rw [World.size_alloc] at h9; omega)
            have t8 := hk8 wr.heap.size _ ((Below.heap_alloc _ _ _ (by omega)).trans hT7.out) (fun e => by have := Option.some.inj e; omega) (fun c fz e => by injection e with _ e2; exact absurd e2 (by decide))
            have d8 : u8.cell? ⟨wr.heap.size, 1, none⟩ = some (.string p.tx) := by rw [Lib.cell_of_heap t8]; rfl
            clear t8 d1 d2 hbt
            go_wp2_with fail
            refine (write_any (w.heap.size + 1 + 1) (w.heap.size + 1 + 1) (w.heap.size + 1) 1 1 (headT m ++ bodyT 0 (m.bs.take k) ++ catS [⟨#[32]⟩]) [p.tx] _ _ rfl (by decide) hf7 (HI.out _ (hx8.alloc (by omega) _)) (by simp) (hb8.alloc _) (by simp; omega) (fun W hk => strIn_lit (World.alloc_heap_new u8 (.cells #[.string p.tx] 9)) rfl (by omega) hk)).mono ?_; rintro e u7 ⟨rfl, hb7, hl7, hk7⟩; have hx7 := (hx8.alloc (by omega) (.cells #[.string p.tx] 9)).trans hl7; have z7 : w.heap.size + 1 + 1 + 1 ≤ u7.heap.size := (by have h9 := hl7.size; rw [World.size_alloc] at h9; omega)
            go_wp2
            go_roundg (n - (k + 1))
            case rel =>
              refine ⟨k + 1, by omega, by go_num, rfl, ?_, hx7⟩
              rw [HS2.out, hsb.out, ← catS_one]
              exact hb7
            case measure => omega
      · obtain rfl : k = n := by omega
        have HA : Hid (m.bs.take k = m.bs) := Lib.hid (List.take_of_length_le (by rw [HN.out]; exact Nat.le_refl _))
        rw [HA.out] at hbr
        have j1 : ¬ (k : Int) < (k : Int) := by omega
        have hf9 : (headT m ++ bodyT 0 m.bs).length + (catS [⟨#[10]⟩]).length ≤ 65536 := by
          have := HF.out
          unfold lineS at this
          rw [List.length_append] at this
          exact this
        go_wp2_with fail
        refine (write_any (w.heap.size + 1 + 1) (w.heap.size + 1 + 1) (w.heap.size + 1) 1 1 (headT m ++ bodyT 0 m.bs) [⟨#[10]⟩] _ _ rfl (by decide) hf9 (HI.out _ (hxr.alloc (by omega) _)) (by simp) (hbr.alloc _) (by simp; omega) (fun W hk => strIn_lit (World.alloc_heap_new wr (.cells #[.string ⟨#[10]⟩] 9)) rfl (by omega) hk)).mono ?_; rintro e u9 ⟨rfl, hb9, hl9, hk9⟩; have hx9 := (hxr.alloc (by omega) (.cells #[.string ⟨#[10]⟩] 9)).trans hl9; have z9 : w.heap.size + 1 + 1 + 1 ≤ u9.heap.size := (by have h9 := hl9.size; rw [World.size_alloc] at h9; omega)
        have CS := Tryz.Builder_String_any_k _ _ _ _ hb9 (by omega)
        have i9 := HI.out _ hx9
        have i9c : u9.cell? ⟨w.heap.size + 1, 0, none⟩ = some (.bool true) := by rw [Lib.cell_of_heap i9]; rfl
        go_wp2_with fail
        refine CS.mono ?_
        rintro e v9 ⟨rfl, -, hl10, -⟩
        have hx10 := hx9.trans hl10
        have i10 := HI.out _ hx10
        have i10c : v9.cell? ⟨w.heap.size + 1, 0, none⟩ = some (.bool true) := by rw [Lib.cell_of_heap i10]; rfl
        have i10f : v9.frozen? ⟨w.heap.size + 1, 0, none⟩ = false := Lib.frozen_of_heap i10 0
        have hsame := setCell_same i10c
        go_wp2
        refine bodyPost_ret (v := .tuple #[.string ⟨(headT m ++ (bodyT 0 m.bs ++ catS [⟨#[10]⟩])).toArray⟩, .bool true]) (by simp [results, Tryz.results11, go_sem, i10c]) rfl ?_
        refine ⟨?_, HQ.out _ hx10⟩
        rw [lineS, List.append_assoc]
        rfl


end Go.Proofs.YtaodjipnffgihaaGreat
