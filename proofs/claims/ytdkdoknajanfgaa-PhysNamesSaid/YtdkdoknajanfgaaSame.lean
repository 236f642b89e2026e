/- The reference's Logical; two lists that are the same. -/
import Derived.Test.YtdkdoknajanfgaaRef
import Derived.BigQuiet
import Derived.Deep.QuietTactic
namespace Go.Proofs.Ytdkdoknajanfgaa
open Go.RowKit

theorem same_below_drewN {B : Nat} {a w : World} (h : Below B a w) (n : Nat) : Below B a (w.drewN n) := ⟨h.os, h.tape, h.output, h.size, h.block⟩

set_option maxRecDepth 100000 in
set_option maxHeartbeats 1000000 in
theorem same_chars {w : World} {ba bb capa capb : Nat} {a b : Option Addr} {l : List Part} (hl : l.length ≤ 65536) (ha : CharRow w ba a capa l) (hb : CharRow w bb b capb l) :
    Calls Try.prog 17 #[.slice a l.length capa, .slice b l.length capb] w fun e w' => e = .returned (.bool true) ∧ Below w.heap.size w w' := by
  go_enter Try.func17, Try.ntmps17
  go_wp2
  go_loopw [5] (fun i wr => ∃ k : Nat, k ≤ l.length ∧ i = .int .i64 k ∧ Below w.heap.size w wr) (fun i _ => l.length - (intOf i).toNat)
  case atStart => exact ⟨0, Nat.zero_le _, rfl, Below.refl _ _⟩
  case round =>
    obtain ⟨k, hk, rfl, hB⟩ := hrel
    by_cases hlt : k < l.length
    · obtain ⟨p, hp⟩ : ∃ p, l[k]? = some p := ⟨_, List.getElem?_eq_getElem hlt⟩
      obtain ⟨g1, rfl, _, hg1, hc1, hm1, a0, a1, a2⟩ := (ha.below hB (Nat.le_refl _)).cells hp
      obtain ⟨g2, rfl, _, hg2, hc2, hm2, b0, b1, b2⟩ := (hb.below hB (Nat.le_refl _)).cells hp
      have i1 : (k : Int) < (l.length : Nat) := by omega
      clear hp ha hb
      go_wp2
      go_big_quiet (fail)
      go_wp2
      go_roundw
      case rel => exact ⟨k + 1, by omega, by go_num, same_below_drewN hB _⟩
      case measure => simp [intOf]; omega
    · go_wp2
      go_ret
      exact ⟨rfl, hB⟩

set_option maxRecDepth 100000 in
set_option maxHeartbeats 1000000 in
theorem same_spans {w : World} {ba bb capa capb : Nat} {a b : Option Addr} {l : List Part} (hl : l.length ≤ 65536) (ha : SpanRow w ba a capa l) (hb : SpanRow w bb b capb l) :
    Calls Try.prog 18 #[.slice a l.length capa, .slice b l.length capb] w fun e w' => e = .returned (.bool true) ∧ Below w.heap.size w w' := by
  go_enter Try.func18, Try.ntmps18
  go_wp2
  go_loopw [5] (fun i wr => ∃ k : Nat, k ≤ l.length ∧ i = .int .i64 k ∧ Below w.heap.size w wr) (fun i _ => l.length - (intOf i).toNat)
  case atStart => exact ⟨0, Nat.zero_le _, rfl, Below.refl _ _⟩
  case round =>
    obtain ⟨k, hk, rfl, hB⟩ := hrel
    by_cases hlt : k < l.length
    · obtain ⟨p, hp⟩ : ∃ p, l[k]? = some p := ⟨_, List.getElem?_eq_getElem hlt⟩
      obtain ⟨g1, rfl, _, hg1, hc1, hm1, a0, a1⟩ := (ha.below hB (Nat.le_refl _)).cells hp
      obtain ⟨g2, rfl, _, hg2, hc2, hm2, b0, b1⟩ := (hb.below hB (Nat.le_refl _)).cells hp
      have i1 : (k : Int) < (l.length : Nat) := by omega
      clear hp ha hb
      go_wp2
      go_big_quiet (fail)
      go_wp2
      go_roundw
      case rel => exact ⟨k + 1, by omega, by go_num, same_below_drewN hB _⟩
      case measure => simp [intOf]; omega
    · go_wp2
      go_ret
      exact ⟨rfl, hB⟩

/-- The bytes of characters. -/
def bts (ps : List Part) : List UInt8 := ps.map (·.b)
theorem bts_length (ps : List Part) : (bts ps).length = ps.length := by simp [bts]
theorem bts_take {ps : List Part} {k : Nat} {p : Part} (h : ps[k]? = some p) : bts (ps.take (k + 1)) = bts (ps.take k) ++ [p.b] := by
  unfold bts
  rw [List.take_add_one, h]
  simp
theorem bts_chB (ps : List Part) : bts (chs ps) = chB ps := by
  induction ps with
  | nil => rfl
  | cons p ps ih =>
    rw [chs_cons, chB_cons, ← ih]
    cases p.sp <;> rfl

theorem rchars_at {s : ByteArray} {n : Int} {l : List Part} (h : checkN s.data.toList = n) (hl : charsOf s.data.toList = l) (hs : s.size ≤ maxLen) (w : World) :
    Calls Try.prog 11 #[.string s] w fun e w' => (∃ a cap, e = .returned (.tuple #[.slice a l.length cap, .int .i64 n]) ∧ CharRow w' w.heap.size a cap l) ∧ Below w.heap.size w w' := by
  have := rchars_any s w hs
  rw [h, hl] at this
  exact this

set_option maxRecDepth 100000 in
set_option maxHeartbeats 1000000 in
theorem rlogical_at {s : ByteArray} {n : Int} {l : List Part} (h : checkN s.data.toList = n) (hl : charsOf s.data.toList = l) (hs : s.size ≤ maxLen) (hll : l.length ≤ 65536) (w : World) :
    Calls Try.prog 13 #[.string s] w fun e w' => e = .returned (.tuple #[.string ⟨(bts l).toArray⟩, .int .i64 n]) ∧ Below w.heap.size w w' := by
  obtain ⟨i0, hi, hz0, hz1, hz2⟩ := info_parts infoU8
  have HC := Lib.hid (rchars_at h hl hs)
  clear h hl
  go_enter Try.func13, Try.ntmps13
  go_wp2_with fail
  refine (HC.out _).mono ?_
  rintro e w1 ⟨⟨a, cap, rfl, hr⟩, hb1⟩
  go_wp2
  go_loopw [6, 7] (fun v i wr => ∃ k : Nat, k ≤ l.length ∧ i = .int .i64 k ∧ wr.ownsRow w1.heap.size 5 1 v (bts (l.take k)).length (Lib.byteCells (bts (l.take k))) ∧ Below w1.heap.size w1 wr) (fun _ i _ => l.length - (intOf i).toNat)
  case atStart => exact ⟨0, Nat.zero_le _, rfl, World.ownsRow_nil _ _ _ _, Below.refl _ _⟩
  case round =>
    obtain ⟨k, hk, rfl, hv, hB⟩ := hrel
    have hbs := hB.size
    by_cases hlt : k < l.length
    · obtain ⟨p, hp⟩ : ∃ p, l[k]? = some p := ⟨_, List.getElem?_eq_getElem hlt⟩
      obtain ⟨g1, rfl, _, hg1, hc1, hm1, a0, a1, a2⟩ := (hr.below hB (Nat.le_refl _)).cells hp
      have i1 : (k : Int) < (l.length : Nat) := by omega
      have hu : (bts (l.take k)).length ≤ 65536 := by rw [bts_length, List.length_take]; omega
      obtain ⟨b, hb⟩ : ∃ b, p.b = b := ⟨_, rfl⟩
      rw [hb] at a0
      have HT := Lib.hid (bts_take hp)
      clear hp a1 a2 hr
      go_wp2_with (at_builtin; refine wpList_append_own _ rfl _ _ 50 rfl w1.heap.size 5 i0 (.int .u8 0) 1 1 Try.underlying50 hi hz0 hz1 hz2 rfl (by decide) _ _ _ rfl (hv.alloc _) ⟨wr.heap.size, 0, none⟩ 1 1 [.int .u8 b.toNat] rfl rfl (cell_one_new _ _ _) (by simp [Value.oneCell']) (by unfold maxLen; omega) (by omega) (by simp; omega) ?_; intro v1 w2 hv1 hg hn1; clear hn1; have hB1 := (hB.alloc hB.size _).grown hg (by simp; omega) (fun j e => (hv.lt j e).1))
      go_roundw
      case rel =>
        refine ⟨k + 1, by omega, by go_num, ?_, hB1⟩
        rw [HT.out, hb, Lib.byteCells_append, List.length_append]
        exact hv1
      case measure => simp [intOf]; omega
    · obtain rfl : k = l.length := by omega
      obtain ⟨a', cap', rfl⟩ := row_shape hv
      have hcv := conv_row rfl hv
      rw [List.take_length] at hcv
      go_wp2
      go_ret2
      exact ⟨rfl, hb1.trans (hB.mono hb1.size)⟩

end Go.Proofs.Ytdkdoknajanfgaa
