/- lines.Says: a row's content. -/
import Derived.Test.YtpomcdolpmbhdaaLnA
import Derived.Test.YtpomcdolpmbhdaaBareO
namespace Go.Proofs.Ytpomcdolpmbhdaa
open Go.RowKit Go.Shelf

/-- How great rows may be for lines. -/
def RowsFit (rs : List Rz) : Prop := ∀ r ∈ rs, r.ts.length * 48 ≤ 140737488355328 ∧ ∀ t ∈ r.ts, t.tx.size ≤ 281474976710656

/-- A slice of tokens in a block of the call's own (B and above) that may be written to. -/
def SaysAt (W : World) (B : Nat) (a : Option Addr) (ts : List Tz) : Prop := 0 < ts.length → ∃ (g o : Nat) (cur : Array Value), a = some ⟨g, o, none⟩ ∧ B ≤ g ∧ W.heap[g]? = some (.cells cur 31 (0, 0)) ∧ o + ts.length * 5 ≤ cur.size ∧ TzAt W g o ts
theorem SaysAt.in {W : World} {B : Nat} {a : Option Addr} {ts : List Tz} (h : SaysAt W B a ts) : TzIn W a ts := fun hp => by
  obtain ⟨g, o, cur, e, _, hc, _, ht⟩ := h hp
  exact ⟨g, o, e, (Array.getElem?_eq_some_iff.1 hc).1, ht⟩
theorem says_cut {W : World} {B g m cap : Nat} {L : List Tz} (h : W.ownsRow B 31 5 (.slice (some ⟨g, 0, none⟩) m cap) m (tzCells L)) (hm : L.length = m) (k : Nat) (hk : k ≤ m) : SaysAt W B (some ⟨g, k * 5, none⟩) (L.drop k) := fun hp => by
  obtain ⟨a, c, e, h1, h2, h3⟩ := tz_shape hm h
  cases e
  rw [List.length_drop] at hp ⊢
  obtain ⟨g', e', hg, hr⟩ := h1 (by omega)
  cases e'
  obtain ⟨cur, hc, hs⟩ := h2.own g rfl
  have := hr.at.drop k
  rw [Nat.zero_add] at this
  exact ⟨g, k * 5, cur, rfl, h3 g rfl, hc, by rw [hm]; omega, this⟩
theorem says_map {W : World} {B m cap : Nat} {a : Option Addr} {L : List Tz} (h : W.ownsRow B 31 5 (.slice a m cap) m (tzCells L)) (hm : L.length = m) (k : Nat) : SaysAt W B (a.map fun x => x.add (k * 5)) (L.drop k) := fun hp => by
  have hp2 := hp
  rw [List.length_drop] at hp2
  obtain ⟨g, rfl, _, _⟩ := row_pos (by omega) h
  have h2 := says_cut h hm k (by omega) hp
  have e : (Option.map (fun x : Addr => x.add (k * 5)) (some ⟨g, 0, none⟩)) = some ⟨g, k * 5, none⟩ := by
    rw [Option.map_some, Addr.add_lit, Nat.zero_add]
  rw [e]
  exact h2

set_option maxRecDepth 100000 in
set_option maxHeartbeats 2000000 in
theorem says_any (r : Rz) (ta : Option Addr) (tcap : Nat) (w : World) (hl : r.ts.length * 48 ≤ 140737488355328) (hx : ∀ t ∈ r.ts, t.tx.size ≤ 281474976710656) (ht : TzIn w ta r.ts) :
    Calls Try.prog 12 #[.agg #[.bool r.d, .string r.nm, .slice ta r.ts.length tcap]] w fun e w' => (∃ a' cap', e = .returned (.slice a' (saysS r).length cap') ∧ SaysAt w' w.heap.size a' (saysS r)) ∧ Below w.heap.size w w' := by
  have hbw := below1 w (.cells #[.bool r.d, .string r.nm, .slice ta r.ts.length tcap] 28)
  have HB1 := bare_off r.ts r.ts.length tcap ta _ rfl hl hx (ht.below hbw)
  have HS := Lib.hid (saysS_ahead r)
  have HA := fun v w' => ahead_any r v w'
  have hA2 := aheadS_le r
  have hk := mcells (w := w) (vs := #[.bool r.d, .string r.nm, .slice ta r.ts.length tcap]) (t := 28)
  have k0 := hk 0 _ rfl
  have k1 := hk 1 _ rfl
  have k2 := hk 2 _ rfl
  have hwz : w.heap.size < (w.alloc (.cells #[.bool r.d, .string r.nm, .slice ta r.ts.length tcap] 28)).heap.size := by simp
  obtain ⟨S, hSS⟩ : ∃ S, saysS r = S := ⟨_, rfl⟩
  obtain ⟨A, hAA⟩ : ∃ A, aheadS r = A := ⟨_, rfl⟩
  have hLb : (bareL r).length ≤ 140737488355328 := by
    have := bareS_len r.ts
    unfold bareL; omega
  obtain ⟨L, hLL⟩ : ∃ L, bareL r = L := ⟨_, rfl⟩
  have hLL' := hLL
  unfold bareL at hLL'
  rw [hLL'] at HB1
  rw [hLL] at hLb
  rw [hSS, hAA, hLL] at HS
  rw [hAA] at HA hA2
  rw [hSS]
  clear hSS hAA hLL hLL' ht hk hx
  go_enter Try.func12, Try.ntmps12
  go_wp2_with fail
  refine HB1.mono ?_
  rintro e w1 ⟨⟨v1, rfl, ho1⟩, hb1⟩
  obtain ⟨a1, cap1, rfl⟩ := row_shape ho1
  have hcap := row_cap2 ho1
  have hB1 := hbw.trans (hb1.mono hbw.size)
  have e0 := (hb1.cell (p := ⟨w.heap.size, 0, none⟩) hwz).trans k0
  have e1 := (hb1.cell (p := ⟨w.heap.size, 1, none⟩) hwz).trans k1
  have e2 := (hb1.cell (p := ⟨w.heap.size, 2, none⟩) hwz).trans k2
  clear k0 k1 k2 HB1
  go_wp2_with fail
  refine (HA _ _).mono ?_
  rintro e w2 ⟨rfl, hb2⟩
  have hB2 := hB1.trans (hb2.mono hB1.size)
  have ho2 := row_below ho1 hb2
  clear e0 e1 e2 ho1 HA
  have hK : Hid (S.length = L.length - (min (A : Int) (L.length : Int)).toNat) := Lib.hid (by rw [HS.out, List.length_drop]; omega)
  have hD : Hid (S = L.drop (min (A : Int) (L.length : Int)).toNat) := Lib.hid (by
    rw [HS.out]
    by_cases h : A ≤ L.length
    · congr 1; omega
    · rw [List.drop_eq_nil_of_le (by omega), List.drop_eq_nil_of_le (by omega)])
  go_wp2
  · go_ret
    rw [hK.out]
    exact ⟨⟨_, ⟨_, rfl⟩, fun hp => by rw [hK.out] at hp; omega⟩, hB2⟩
  · go_ret
    rw [hK.out]
    exact ⟨⟨_, ⟨_, rfl⟩, by rw [hD.out]; exact says_map (row_base (b' := w.heap.size) (by simp) ho2) rfl _⟩, hB2⟩

end Go.Proofs.Ytpomcdolpmbhdaa
