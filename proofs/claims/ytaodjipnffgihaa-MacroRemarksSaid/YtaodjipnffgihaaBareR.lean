/- regletref02.Bare, regletref02.Same. -/
import Derived.Test.YtaodjipnffgihaaBare
namespace Go.Proofs.Ytaodjipnffgihaa
open Go.RowKit Go.Shelf

def TzAt (W : World) (b o : Nat) (ts : List Tz) : Prop := ∀ i t, ts[i]? = some t → W.cell? ⟨b, o + i * 5, none⟩ = some (.int .i64 t.k) ∧ W.cell? ⟨b, o + i * 5 + 1, none⟩ = some (.string t.tx) ∧ W.cell? ⟨b, o + i * 5 + 2, none⟩ = some (.int .i64 t.a) ∧ W.cell? ⟨b, o + i * 5 + 3, none⟩ = some (.int .i64 t.e) ∧ W.cell? ⟨b, o + i * 5 + 4, none⟩ = some (.bool t.sp)
theorem TzAt.below {B b o : Nat} {W W' : World} {ys : List Tz} (h : TzAt W b o ys) (hb : Below B W W') (hg : b < B) : TzAt W' b o ys := fun i y hy => by
  have hc : ∀ o, W'.cell? ⟨b, o, none⟩ = W.cell? ⟨b, o, none⟩ := fun o => hb.cell (p := ⟨b, o, none⟩) hg
  rw [hc, hc, hc, hc, hc]
  exact h i y hy
theorem TzRow.at {W : World} {g : Nat} {ts : List Tz} (h : TzRow W g ts) : TzAt W g 0 ts := fun i t ht => by
  rw [Nat.zero_add]; exact h i t ht

/-- Is what the last token says what bareS keeps? -/
theorem bareS_ah {ts : List Tz} {j : Nat} {p : Tz} (h : ts[j]? = some p) : (bareS (ts.take (j + 1))).2 = outK p.k := by
  rw [bareS_snoc h]
  unfold bareStep
  cases outK p.k <;> rfl

theorem cell5_two (w : World) (o : Obj) (a b c d e : Value) (t : TypeId) : ∀ j x, [a, b, c, d, e][j]? = some x → ((w.alloc o).alloc (.cells #[a, b, c, d, e] t)).cell? ((⟨w.heap.size + 1, 0, none⟩ : Addr).add j) = some x := by
  have := cell5_new (w.alloc o) a b c d e t
  rw [World.size_alloc] at this
  exact this

set_option maxHeartbeats 2000000 in
theorem same_any (ts : List Tz) (n c1 c2 : Nat) (a1 a2 : Option Addr) (w : World) (hn : ts.length = n) (hn2 : n ≤ maxLen)
    (h1 : 0 < n → ∃ b o, a1 = some ⟨b, o, none⟩ ∧ TzAt w b o ts) (h2 : 0 < n → ∃ b o, a2 = some ⟨b, o, none⟩ ∧ TzAt w b o ts) :
    Calls Try.prog 14 #[.slice a1 n c1, .slice a2 n c2] w fun e w' => e = .returned (.bool true) ∧ ∃ q, w' = w.drewN q := by
  unfold maxLen at hn2
  have HN := Lib.hid hn
  have H1 := Lib.hid h1
  have H2 := Lib.hid h2
  clear hn h1 h2
  go_enter Try.func14, Try.ntmps14
  go_wp2
  go_loopw [5] (fun i wx => ∃ k : Nat, k ≤ n ∧ i = .int .i64 k ∧ ∃ q, wx = w.drewN q) (fun i _ => n - (intOf i).toNat)
  case atStart => exact ⟨0, Nat.zero_le _, rfl, 0, rfl⟩
  case round =>
    obtain ⟨k, hk, rfl, q, rfl⟩ := hrel
    by_cases hlt : k < n
    · obtain ⟨t, ht⟩ : ∃ t, ts[k]? = some t := ⟨_, List.getElem?_eq_getElem (by rw [HN.out]; exact hlt)⟩
      obtain ⟨b, o, rfl, hr⟩ := H1.out (by omega)
      obtain ⟨c0, c1, c2, c3, c4⟩ := hr k t ht
      obtain ⟨b2, o2, rfl, hr2⟩ := H2.out (by omega)
      obtain ⟨d0, d1, d2, d3, d4⟩ := hr2 k t ht
      clear hr hr2 ht
      obtain ⟨tk, tt, ta, te, tsp⟩ := t
      simp only at c0 c1 c2 c3 c4 d0 d1 d2 d3 d4
      have j1 : (k : Int) < (n : Int) := by omega
      have j0 : (0 : Int) ≤ (k : Int) := by omega
      go_wp2
      go_big_quiet (fail)
      go_wp2
      refine ⟨⟨k + 1, by omega, by go_num, _, rfl⟩, ?_⟩
      simp [intOf]; omega
    · go_wp2
      go_ret
      exact ⟨rfl, q, rfl⟩

end Go.Proofs.Ytaodjipnffgihaa
