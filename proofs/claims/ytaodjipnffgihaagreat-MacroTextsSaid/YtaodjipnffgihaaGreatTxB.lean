/- macro.lineOf's closure: texts go into the builder, while they fit. -/
import Derived.Test.YtaodjipnffgihaaGreatMzG
import Derived.Test.YtaodjipnffgihaaGreatMzD
import Derived.Test.YtaodjipnffgihaaGreatMcP
namespace Go.Proofs.YtaodjipnffgihaaGreat
open Go.RowKit Go.Shelf

def catS (ss : List ByteArray) : List UInt8 := ss.flatMap (fun s => s.data.toList)
theorem catS_append (x y : List ByteArray) : catS (x ++ y) = catS x ++ catS y := List.flatMap_append
theorem catS_one (s : ByteArray) : catS [s] = s.data.toList := by simp [catS]
theorem catS_take {ss : List ByteArray} {k : Nat} {s : ByteArray} (h : ss[k]? = some s) : catS (ss.take (k + 1)) = catS (ss.take k) ++ s.data.toList := by
  rw [List.take_add_one, h, catS_append]
  exact congrArg _ (catS_one s)
theorem catS_le (ss : List ByteArray) (k : Nat) : (catS (ss.take k)).length ≤ (catS ss).length := by
  have h : catS ss = catS (ss.take k) ++ catS (ss.drop k) := by rw [← catS_append, List.take_append_drop]
  rw [h, List.length_append]; omega
theorem setCell_same {w : World} {a : Addr} {v : Value} (h : w.cell? a = some v) : w.setCell a v = w := by
  have hh : (w.setCell a v).heap = w.heap := by
    apply Array.ext_getElem?
    intro i
    unfold World.setCell
    rw [Array.getElem?_modify]
    by_cases e : a.block = i
    · rw [if_pos e]
      subst e
      unfold World.cell? at h
      cases hb : w.heap[a.block]? with
      | none => rfl
      | some o =>
        rw [hb] at h
        cases o with
        | cells c T fz =>
          simp only at h
          by_cases hs : a.spot.isSome = true
          · rw [if_pos hs] at h; cases h
          · rw [if_neg hs] at h
            simp only [Option.map_some, if_neg hs]
            have e2 : c.setIfInBounds a.off v = c := by
              apply Array.ext_getElem?
              intro j
              rw [Array.getElem?_setIfInBounds]
              by_cases ej : a.off = j
              · subst ej
                rw [if_pos rfl, h]
                split
                · rfl
                · rename_i hlt
                  rw [Array.getElem?_eq_none (by omega)] at h; cases h
              · rw [if_neg ej]
            rw [e2]
        | _ => rfl
    · rw [if_neg e]
  have e : w.setCell a v = { w with heap := (w.setCell a v).heap } := rfl
  rw [e, hh]

set_option maxRecDepth 100000 in
set_option maxHeartbeats 8000000 in
theorem write_any (B b I n cap : Nat) (bs : List UInt8) (ss : List ByteArray) (a : Option Addr) (w : World) (hn : ss.length = n) (hn2 : n ≤ 1000) (hfit : bs.length + (catS ss).length ≤ 65536)
    (hI : w.heap[I]? = some (.cells #[.bool true] 4 (0, 0))) (hIb : some I ≠ some b) (hb : Lib.IsBuilderF 61 5 B b (Lib.byteCells bs) w) (hBw : B ≤ w.heap.size) (hT : ∀ W, Lib.OthersKept 5 (some b) w W → StrIn W a ss) :
    Calls Tryz.prog 25 #[.slice a n cap, .pointer (some ⟨I, 0, none⟩), .pointer (some ⟨b, 0, none⟩)] w fun e w' => e = .returned (.tuple #[]) ∧ (Lib.IsBuilderF 61 5 B b (Lib.byteCells (bs ++ catS ss)) w' ∧ Below B w w' ∧ Lib.OthersKept 5 (some b) w w') := by
  have HN := Lib.hid hn
  have HT := Lib.hid hT
  have HF := Lib.hid hfit
  have HI := Lib.hid hI
  clear hn hT hfit hI
  go_enter Tryz.func25, Tryz.ntmps25
  go_wp2
  go_loopg [8] n (fun g i wx => ∃ k : Nat, k ≤ n ∧ i = .int .i64 k ∧ g = n - k ∧ Lib.IsBuilderF 61 5 B b (Lib.byteCells (bs ++ catS (ss.take k))) wx ∧ Below B w wx ∧ Lib.OthersKept 5 (some b) w wx)
  case atStart => exact ⟨0, Nat.zero_le _, rfl, rfl, by rw [List.take_zero]; simpa [catS] using hb, Below.refl _ _, Lib.OthersKept.refl _ _ _⟩
  case round =>
    obtain ⟨k, hk, rfl, rfl, hbx, hbel, hok⟩ := hrel
    by_cases hlt : k < n
    · obtain ⟨s, hs⟩ : ∃ s, ss[k]? = some s := ⟨_, List.getElem?_eq_getElem (by rw [HN.out]; exact hlt)⟩
      obtain ⟨b1, o, rfl, hg, hr⟩ := HT.out wr hok (by rw [HN.out]; omega)
      have c0 := hr k s hs
      have hIx := hok I _ HI.out hIb (fun c fz e => by injection e with _ e2; exact absurd e2 (by decide))
      have cI : wr.cell? ⟨I, 0, none⟩ = some (.bool true) := by rw [Lib.cell_of_heap hIx]; rfl
      have fI : wr.frozen? ⟨I, 0, none⟩ = false := Lib.frozen_of_heap hIx 0
      have hsame := setCell_same cI
      have hs2 := catS_take hs
      have hle : bs.length + (catS (ss.take k)).length + s.size ≤ 65536 := by
        have h1 := catS_le ss (k + 1)
        rw [hs2, List.length_append] at h1
        have h2 : s.data.toList.length = s.size := Array.length_toList
        have := HF.out
        omega
      have HS2 : Hid (bs ++ catS (ss.take (k + 1)) = bs ++ catS (ss.take k) ++ s.data.toList) := Lib.hid (by rw [hs2, List.append_assoc])
      have hlen : (Lib.byteCells (bs ++ catS (ss.take k))).length = (bs.length + (catS (ss.take k)).length) := by rw [Lib.byteCells_length, List.length_append]
      obtain ⟨L, hL⟩ : ∃ L, bs.length + (catS (ss.take k)).length = L := ⟨_, rfl⟩
      rw [hL] at hlen hle
      have CL := Tryz.Builder_Len_f _ _ _ _ hbx
      have CW := writeString_k B b _ s wr hbx (by rw [hlen]; omega) (Nat.le_trans hBw hbel.size)
      rw [hlen] at CL
      have j1 : (k : Int) < (n : Int) := by omega
      have j0 : (0 : Int) ≤ (k : Int) := by omega
      have j2 : (s.size : Int) ≤ 65536 - (L : Int) := by omega
      clear hr hs hs2 hIx hL hle
      go_wp2_with (first
        | (go_at_call 26; refine CL.mono ?_; rintro e w2 ⟨rfl, hw2⟩; rw [hw2]; clear hw2 w2)
        | (go_at_call 27; refine CW.mono ?_; rintro e w3 ⟨rfl, hb3, hbel3, hok3⟩)
        | fail)
      go_roundg (n - (k + 1))
      case rel =>
        refine ⟨k + 1, by omega, by go_num, rfl, ?_, hbel.trans hbel3, hok.trans hok3⟩
        rw [HS2.out, Lib.byteCells_append, ← Lib.strCells_eq]
        exact .inr hb3
      case measure => omega
    · obtain rfl : k = n := by omega
      have HA : Hid (ss.take k = ss) := Lib.hid (List.take_of_length_le (by rw [HN.out]; exact Nat.le_refl _))
      rw [HA.out] at hbx
      have j1 : ¬ (k : Int) < (k : Int) := by omega
      go_wp2
      go_end0
      exact ⟨rfl, hbx, hbel, hok⟩

end Go.Proofs.YtaodjipnffgihaaGreat
