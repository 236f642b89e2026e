/- Several texts laid together. -/
import Derived.Test.YtaodjipnffgihaaGreatMzJ
import Derived.Test.YtaodjipnffgihaaGreatMzH
import Derived.Test.YtaodjipnffgihaaGreatMzK
import Derived.Outline

namespace Go.Proofs.YtaodjipnffgihaaGreat
open Go.RowKit Go.Shelf

theorem nameB_twoB {bs : List Tz} {u : Tz} (h : bs[1]? = some u) : nameB bs = if u.k == 1 then u.tx else ⟨#[]⟩ := by
  match bs, h with
  | [], h => simp at h
  | [_], h => simp at h
  | _ :: v :: _, h => simp at h; subst h; rfl
theorem rowOf_parts {l bs : List Tz} (h : (bareS l).1 = bs) : rowOf l = ⟨hashB bs, if hashB bs then nameB bs else ⟨#[]⟩, l⟩ := by unfold rowOf; rw [h]

theorem row_set {W : World} {B i : Nat} {x : Array Value} {u : Value} (h : W.heap[B]? = some (.cells x 50 (0, 0))) : (W.setCell ⟨B, i, none⟩ u).heap[B]? = some (.cells (x.setIfInBounds i u) 50 (0, 0)) := by
  simp [World.setCell, Array.getElem?_modify, h]
theorem row_facts {W : World} {B : Nat} {a b c : Value} (h : W.heap[B]? = some (.cells #[a, b, c] 50 (0, 0))) : W.cell? ⟨B, 0, none⟩ = some a ∧ W.cell? ⟨B, 1, none⟩ = some b ∧ W.cell? ⟨B, 2, none⟩ = some c ∧ W.frozen? ⟨B, 0, none⟩ = false ∧ W.frozen? ⟨B, 1, none⟩ = false ∧ W.frozen? ⟨B, 2, none⟩ = false := by
  refine ⟨?_, ?_, ?_, ?_, ?_, ?_⟩
  all_goals simp [World.cell?, World.frozen?, h]
theorem rowOf_own {W : World} {B g n cap base : Nat} {ts : List Tz} {x : Array Value} (hn : ts.length = n) (h : W.heap[B]? = some (.cells x 50 (0, 0))) (ho : W.ownsRow base 83 5 (.slice (some ⟨g, 0, none⟩) n cap) n (tzCells ts)) (a b c : Value) :
    TokOwn (((W.setCell ⟨B, 0, none⟩ a).setCell ⟨B, 1, none⟩ b).setCell ⟨B, 2, none⟩ c) base (.slice (some ⟨g, 0, none⟩) n cap) ts := by
  unfold TokOwn
  rw [hn]
  have h1 := row_set (i := 0) (u := a) h
  have h2 := row_set (i := 1) (u := b) h1
  exact ownsRow_keepsT (ownsRow_keepsT (ownsRow_keepsT ho (keepsT_other h (by decide) a)) (keepsT_other h1 (by decide) b)) (keepsT_other h2 (by decide) c)

set_option maxRecDepth 100000 in
set_option maxHeartbeats 4000000 in
theorem rowOf_any (ts : List Tz) (n cap : Nat) (ad : Addr) (w : World) (hn : ts.length = n) (hn0 : 0 < n) (hn2 : n * 48 ≤ 140737488355328) (hx : ∀ t ∈ ts, t.tx.size ≤ 281474976710656) (hT : 0 < n → ∃ b o, ad = ⟨b, o, none⟩ ∧ b < w.heap.size ∧ TzAt w b o ts) :
    Calls Tryz.prog 54 #[.slice (some ad) n cap] w fun e w' => (∃ u, e = .returned (.agg #[.bool (rowOf ts).d, .string (rowOf ts).nm, u]) ∧ TokOwn w' w.heap.size u ts) ∧ Below w.heap.size w w' := by
  obtain ⟨bs, hbs⟩ : ∃ bs, (bareS ts).1 = bs := ⟨_, rfl⟩
  have HR := Lib.hid (rowOf_parts hbs)
  have HC := fun (w' : World) (hb : Below w.heap.size w w') => copyOf_any ts n cap ad w' hn hn0 hn2 hx (fun hp => by obtain ⟨b, o, e, h1, h2⟩ := hT hp; exact ⟨b, o, e, Nat.lt_of_lt_of_le h1 hb.size, h2.below hb h1⟩)
  have HB := fun (w' : World) (hb : Below w.heap.size w w') => bare_off ts n cap (some ad) w' hn hn2 hx (fun hp => by obtain ⟨b, o, e, h1, h2⟩ := hT hp; exact ⟨b, o, by rw [e], Nat.lt_of_lt_of_le h1 hb.size, h2.below hb h1⟩)
  rw [hbs] at HB
  have hbl : bs.length ≤ n := by
    have := bareS_len ts
    rw [hbs, hn] at this; exact this
  have HN := Lib.hid hn
  clear hn hx hT hbs
  go_enter Tryz.func54, Tryz.ntmps54
  go_wp2_with fail
  have hb1 := below1 w (.cells #[.bool false, .string ⟨#[]⟩, .slice none 0 0] 50)
  refine (HC _ hb1).mono ?_
  rintro e w2 ⟨⟨g, cap2, rfl, ho2⟩, hb2⟩
  have hg2 : g < w2.heap.size := (ho2.lt g rfl).2
  have hgB : w.heap.size + 1 ≤ g := by have := (ho2.lt g rfl).1; simpa using this
  have hB2 : Below w.heap.size w w2 := hb1.trans (hb2.mono hb1.size)
  have hZ2 : w2.heap[w.heap.size]? = some (.cells #[.bool false, .string ⟨#[]⟩, .slice none 0 0] 50 (0, 0)) := (hb2.block w.heap.size (by simp)).trans (World.alloc_heap_new w _)
  have ho2' : w2.ownsRow w.heap.size 83 5 (.slice (some ⟨g, 0, none⟩) n cap2) n (tzCells ts) := row_base (by simp) ho2
  have hs2 : w.heap.size < w2.heap.size := by omega
  have hb3 := below1 w2 (.cells #[.bool false, .string ⟨#[]⟩, .slice (some ⟨g, 0, none⟩) n cap2] 50)
  have hB3 := hB2.trans (hb3.mono hB2.size)
  have HB3 := HB _ hB3
  clear HB HC ho2
  go_wp2_with fail
  refine HB3.mono ?_
  rintro e w4 ⟨⟨v4, rfl, hr4⟩, hb4⟩
  obtain ⟨a4, cap4, rfl, hrow4, -, -⟩ := tz_shape rfl hr4
  have hB4 := hB3.trans (hb4.mono hB3.size)
  have hs4 : w2.heap.size + 1 ≤ w4.heap.size := by have := hb4.size; simpa using this
  have hZ4 : w4.heap[w.heap.size]? = some (.cells #[.bool false, .string ⟨#[]⟩, .slice none 0 0] 50 (0, 0)) := (hb4.block w.heap.size (by simp; omega)).trans ((hb3.block w.heap.size hs2).trans hZ2)
  have hR4 : w4.heap[w2.heap.size]? = some (.cells #[.bool false, .string ⟨#[]⟩, .slice (some ⟨g, 0, none⟩) n cap2] 50 (0, 0)) := (hb4.block w2.heap.size (by simp)).trans (World.alloc_heap_new w2 _)
  have ho4 : w4.ownsRow w.heap.size 83 5 (.slice (some ⟨g, 0, none⟩) n cap2) n (tzCells ts) := row_below (ho2'.alloc _) hb4
  have HRow4 := Lib.hid hrow4
  obtain ⟨R, hR⟩ : ∃ R, w2.heap.size = R := ⟨_, rfl⟩
  rw [hR] at hR4 hs4 hs2 hg2
  have HRR := Lib.hid hR
  clear hrow4 hr4 hZ2 HB3 hb3 hB3 hb4 hB2 ho2' hb1 hb2
  rw [hR]
  clear hR
  have r0 : w4.cell? ⟨R, 0, none⟩ = some (.bool false) := by rw [Lib.cell_of_heap hR4]; rfl
  have r1 : w4.cell? ⟨R, 1, none⟩ = some (.string ⟨#[]⟩) := by rw [Lib.cell_of_heap hR4]; rfl
  have r2 : w4.cell? ⟨R, 2, none⟩ = some (.slice (some ⟨g, 0, none⟩) n cap2) := by rw [Lib.cell_of_heap hR4]; rfl
  have fr0 : w4.frozen? ⟨R, 0, none⟩ = false := by simp [World.frozen?, hR4]
  have fr1 : w4.frozen? ⟨R, 1, none⟩ = false := by simp [World.frozen?, hR4]
  have z0 : w4.cell? ⟨w.heap.size, 0, none⟩ = some (.bool false) := by rw [Lib.cell_of_heap hZ4]; rfl
  have z1 : w4.cell? ⟨w.heap.size, 1, none⟩ = some (.string ⟨#[]⟩) := by rw [Lib.cell_of_heap hZ4]; rfl
  have z2 : w4.cell? ⟨w.heap.size, 2, none⟩ = some (.slice none 0 0) := by rw [Lib.cell_of_heap hZ4]; rfl
  have fz0 : w4.frozen? ⟨w.heap.size, 0, none⟩ = false := by simp [World.frozen?, hZ4]
  have fz1 : w4.frozen? ⟨w.heap.size, 1, none⟩ = false := by simp [World.frozen?, hZ4]
  have fz2 : w4.frozen? ⟨w.heap.size, 2, none⟩ = false := by simp [World.frozen?, hZ4]
  cases bs with
  | nil =>
    have HR2 : Hid (rowOf ts = ⟨false, ⟨#[]⟩, ts⟩) := Lib.hid HR.out
    clear HR HRow4
    go_wp2
    refine bodyPost_ret (v := .agg #[.bool false, .string ⟨#[]⟩, .slice (some ⟨g, 0, none⟩) n cap2]) (by simp [results, Tryz.results54, go_sem, z0, z1, z2]) rfl ⟨⟨_, by rw [HR2.out], ?_⟩, ?_⟩
    · exact rowOf_own HN.out hZ4 ho4 _ _ _
    · exact ((hB4.setCell (p := ⟨w.heap.size, 0, none⟩) (Nat.le_refl _) _).setCell (p := ⟨w.heap.size, 1, none⟩) (Nat.le_refl _) _).setCell (p := ⟨w.heap.size, 2, none⟩) (Nat.le_refl _) _
  | cons t r =>
    obtain ⟨g4, rfl, hg4, ht4⟩ := HRow4.out (by simp)
    have HT4 := Lib.hid ht4
    obtain ⟨c0, c1, c2, c3, c4⟩ := ht4 0 t rfl
    rw [Nat.zero_mul] at c0 c1 c2 c3 c4
    have HBG := fun w' => begins_any t w'
    have hF : ∀ W : World, Below w4.heap.size w4 W → W.heap[w.heap.size]? = some (.cells #[.bool false, .string ⟨#[]⟩, .slice none 0 0] 50 (0, 0)) ∧ W.heap[R]? = some (.cells #[.bool false, .string ⟨#[]⟩, .slice (some ⟨g, 0, none⟩) n cap2] 50 (0, 0)) ∧ W.ownsRow w.heap.size 83 5 (.slice (some ⟨g, 0, none⟩) n cap2) n (tzCells ts) ∧ Below w.heap.size w W :=
      fun W hW => ⟨(hW.block _ (by omega)).trans hZ4, (hW.block _ (by omega)).trans hR4, row_below ho4 hW, hB4.trans (hW.mono hB4.size)⟩
    have HF := Lib.hid hF
    have hbl2 : (1 : Int) ≤ ((r.length : Int) + 1) := by omega
    have hne0 : (((t :: r).length : Int) == 0) = false := by rw [List.length_cons]; exact beq_eq_false_iff_ne.2 (by omega)
    rw [List.length_cons] at hne0
    clear hF ht4 z0 z1 z2 fz0 fz1 fz2 r0 r1 r2 fr0 fr1 HRow4
    cases hbg : begB t with
    | false =>
      have HR2 : Hid (rowOf ts = ⟨false, ⟨#[]⟩, ts⟩) := Lib.hid (by rw [HR.out, hashB_cons, hbg]; rfl)
      rw [hbg] at HBG
      clear HR hbg
      go_wp2_with fail
      refine (HBG _).mono ?_
      rintro e w5 ⟨rfl, hb5⟩
      obtain ⟨hZ5, hR5, ho5, hB5⟩ := HF.out w5 hb5
      obtain ⟨z0, z1, z2, fz0, fz1, fz2⟩ := row_facts hZ5
      obtain ⟨r0, r1, r2, fr0, fr1, fr2⟩ := row_facts hR5
      go_wp2
      refine bodyPost_ret (v := .agg #[.bool false, .string ⟨#[]⟩, .slice (some ⟨g, 0, none⟩) n cap2]) (by simp [results, Tryz.results54, go_sem, z0, z1, z2]) rfl ⟨⟨_, by rw [HR2.out], ?_⟩, ?_⟩
      · exact rowOf_own HN.out hZ5 ho5 _ _ _
      · exact ((hB5.setCell (p := ⟨w.heap.size, 0, none⟩) (Nat.le_refl _) _).setCell (p := ⟨w.heap.size, 1, none⟩) (Nat.le_refl _) _).setCell (p := ⟨w.heap.size, 2, none⟩) (Nat.le_refl _) _
    | true =>
      have hRw : rowOf ts = ⟨true, nameB (t :: r), ts⟩ := by rw [HR.out, hashB_cons, hbg]; rfl
      have HR2 := Lib.hid hRw
      rw [hbg] at HBG
      clear HR hbg hRw
      cases r with
      | nil =>
        have HRow : Hid (rowOf ts = ⟨true, ⟨#[]⟩, ts⟩) := Lib.hid HR2.out
        clear HR2
        go_wp2_with fail
        refine (HBG _).mono ?_
        rintro e w5 ⟨rfl, hb5⟩
        obtain ⟨hZ5, hR5, ho5, hB5⟩ := HF.out w5 hb5
        obtain ⟨z0, z1, z2, fz0, fz1, fz2⟩ := row_facts hZ5
        obtain ⟨r0, r1, r2, fr0, fr1, fr2⟩ := row_facts hR5
        have hne : R ≠ w.heap.size := by omega
        have hne2 : w.heap.size ≠ R := by omega
        go_wp2
        refine bodyPost_ret (v := .agg #[.bool true, .string ⟨#[]⟩, .slice (some ⟨g, 0, none⟩) n cap2]) (by simp [results, Tryz.results54, go_sem, z0, z1, z2, hne, hne2]) rfl ⟨⟨_, by rw [HRow.out], ?_⟩, ?_⟩
        · exact rowOf_own HN.out ((Below.heap_setCell _ _ _ _ hne2).trans hZ5) (ownsRow_keepsT ho5 (keepsT_other hR5 (by decide) _)) _ _ _
        · exact (((hB5.setCell (p := ⟨R, 0, none⟩) (Nat.le_of_lt hs2) _).setCell (p := ⟨w.heap.size, 0, none⟩) (Nat.le_refl _) _).setCell (p := ⟨w.heap.size, 1, none⟩) (Nat.le_refl _) _).setCell (p := ⟨w.heap.size, 2, none⟩) (Nat.le_refl _) _
      | cons u r =>
        obtain ⟨d0, d1, -⟩ := HT4.out 1 u rfl
        cases hk1 : (u.k == 1) with
        | false =>
          have HRow : Hid (rowOf ts = ⟨true, ⟨#[]⟩, ts⟩) := Lib.hid (by rw [HR2.out, nameB_twoB (show (t :: u :: r)[1]? = some u from rfl), hk1]; rfl)
          clear HR2
          go_wp2_with fail
          refine (HBG _).mono ?_
          rintro e w5 ⟨rfl, hb5⟩
          obtain ⟨hZ5, hR5, ho5, hB5⟩ := HF.out w5 hb5
          obtain ⟨z0, z1, z2, fz0, fz1, fz2⟩ := row_facts hZ5
          obtain ⟨r0, r1, r2, fr0, fr1, fr2⟩ := row_facts hR5
          have e0 := (hb5.cell (p := ⟨g4, 1 * 5, none⟩) hg4).trans d0
          have e1 := (hb5.cell (p := ⟨g4, 1 * 5 + 1, none⟩) hg4).trans d1
          rw [show 1 * 5 = 5 from rfl] at e0 e1
          have hne : R ≠ w.heap.size := by omega
          have hne2 : w.heap.size ≠ R := by omega
          go_wp2
          refine bodyPost_ret (v := .agg #[.bool true, .string ⟨#[]⟩, .slice (some ⟨g, 0, none⟩) n cap2]) (by simp [results, Tryz.results54, go_sem, z0, z1, z2, hne, hne2]) rfl ⟨⟨_, by rw [HRow.out], ?_⟩, ?_⟩
          · exact rowOf_own HN.out ((Below.heap_setCell _ _ _ _ hne2).trans hZ5) (ownsRow_keepsT ho5 (keepsT_other hR5 (by decide) _)) _ _ _
          · exact (((hB5.setCell (p := ⟨R, 0, none⟩) (Nat.le_of_lt hs2) _).setCell (p := ⟨w.heap.size, 0, none⟩) (Nat.le_refl _) _).setCell (p := ⟨w.heap.size, 1, none⟩) (Nat.le_refl _) _).setCell (p := ⟨w.heap.size, 2, none⟩) (Nat.le_refl _) _
        | true =>
          have HRow : Hid (rowOf ts = ⟨true, u.tx, ts⟩) := Lib.hid (by rw [HR2.out, nameB_twoB (show (t :: u :: r)[1]? = some u from rfl), hk1]; rfl)
          clear HR2
          go_wp2_with fail
          refine (HBG _).mono ?_
          rintro e w5 ⟨rfl, hb5⟩
          obtain ⟨hZ5, hR5, ho5, hB5⟩ := HF.out w5 hb5
          obtain ⟨z0, z1, z2, fz0, fz1, fz2⟩ := row_facts hZ5
          obtain ⟨r0, r1, r2, fr0, fr1, fr2⟩ := row_facts hR5
          have e0 := (hb5.cell (p := ⟨g4, 1 * 5, none⟩) hg4).trans d0
          have e1 := (hb5.cell (p := ⟨g4, 1 * 5 + 1, none⟩) hg4).trans d1
          rw [show 1 * 5 = 5 from rfl] at e0 e1
          have hne : R ≠ w.heap.size := by omega
          have hne2 : w.heap.size ≠ R := by omega
          go_wp2
          refine bodyPost_ret (v := .agg #[.bool true, .string u.tx, .slice (some ⟨g, 0, none⟩) n cap2]) (by simp [results, Tryz.results54, go_sem, z0, z1, z2, hne, hne2]) rfl ⟨⟨_, by rw [HRow.out], ?_⟩, ?_⟩
          · exact rowOf_own HN.out ((Below.heap_setCell _ _ _ _ hne2).trans ((Below.heap_setCell _ _ _ _ hne2).trans hZ5)) (ownsRow_keepsT (ownsRow_keepsT ho5 (keepsT_other hR5 (by decide) _)) (keepsT_other (row_set hR5) (by decide) _)) _ _ _
          · exact ((((hB5.setCell (p := ⟨R, 0, none⟩) (Nat.le_of_lt hs2) _).setCell (p := ⟨R, 1, none⟩) (Nat.le_of_lt hs2) _).setCell (p := ⟨w.heap.size, 0, none⟩) (Nat.le_refl _) _).setCell (p := ⟨w.heap.size, 1, none⟩) (Nat.le_refl _) _).setCell (p := ⟨w.heap.size, 2, none⟩) (Nat.le_refl _) _

end Go.Proofs.YtaodjipnffgihaaGreat

namespace Go.Proofs.YtaodjipnffgihaaGreat
open Go.RowKit Go.Shelf

/-- How great rows may be for lines. -/
def RowsFit (rs : List Rz) : Prop := ∀ r ∈ rs, r.ts.length * 48 ≤ 140737488355328 ∧ ∀ t ∈ r.ts, t.tx.size ≤ 281474976710656

/-- A slice of tokens in a block of the call's own (B and above) that may be written to. -/
def SaysAt (W : World) (B : Nat) (a : Option Addr) (ts : List Tz) : Prop := 0 < ts.length → ∃ (g o : Nat) (cur : Array Value), a = some ⟨g, o, none⟩ ∧ B ≤ g ∧ W.heap[g]? = some (.cells cur 83 (0, 0)) ∧ o + ts.length * 5 ≤ cur.size ∧ TzAt W g o ts
theorem SaysAt.in {W : World} {B : Nat} {a : Option Addr} {ts : List Tz} (h : SaysAt W B a ts) : TzIn W a ts := fun hp => by
  obtain ⟨g, o, cur, e, _, hc, _, ht⟩ := h hp
  exact ⟨g, o, e, (Array.getElem?_eq_some_iff.1 hc).1, ht⟩
theorem says_cut {W : World} {B g m cap : Nat} {L : List Tz} (h : W.ownsRow B 83 5 (.slice (some ⟨g, 0, none⟩) m cap) m (tzCells L)) (hm : L.length = m) (k : Nat) (hk : k ≤ m) : SaysAt W B (some ⟨g, k * 5, none⟩) (L.drop k) := fun hp => by
  obtain ⟨a, c, e, h1, h2, h3⟩ := tz_shape hm h
  cases e
  rw [List.length_drop] at hp ⊢
  obtain ⟨g', e', hg, hr⟩ := h1 (by omega)
  cases e'
  obtain ⟨cur, hc, hs⟩ := h2.own g rfl
  have := hr.at.drop k
  rw [Nat.zero_add] at this
  exact ⟨g, k * 5, cur, rfl, h3 g rfl, hc, by rw [hm]; omega, this⟩
theorem says_map {W : World} {B m cap : Nat} {a : Option Addr} {L : List Tz} (h : W.ownsRow B 83 5 (.slice a m cap) m (tzCells L)) (hm : L.length = m) (k : Nat) : SaysAt W B (a.map fun x => x.add (k * 5)) (L.drop k) := fun hp => by
  have hp2 := hp
  rw [List.length_drop] at hp2
  obtain ⟨g, rfl, _, _⟩ := row_pos (by omega) h
  have h2 := says_cut h hm k (by omega) hp
  have e : (Option.map (fun x : Addr => x.add (k * 5)) (some ⟨g, 0, none⟩)) = some ⟨g, k * 5, none⟩ := by
    rw [Option.map_some, Addr.add_lit, Nat.zero_add]
  rw [e]
  exact h2

set_option maxRecDepth 100000 in
set_option maxHeartbeats 2000000 in
theorem says_cap_any (r : Rz) (ta : Option Addr) (tcap : Nat) (w : World) (hl : r.ts.length * 48 ≤ 140737488355328) (hx : ∀ t ∈ r.ts, t.tx.size ≤ 281474976710656) (ht : TzIn w ta r.ts) :
    Calls Tryz.prog 35 #[.agg #[.bool r.d, .string r.nm, .slice ta r.ts.length tcap]] w fun e w' => (∃ a' cap', e = .returned (.slice a' (saysS r).length cap') ∧ (saysS r).length ≤ cap' ∧ SaysAt w' w.heap.size a' (saysS r)) ∧ Below w.heap.size w w' := by
  have hbw := below1 w (.cells #[.bool r.d, .string r.nm, .slice ta r.ts.length tcap] 50)
  have HB1 := bare_off r.ts r.ts.length tcap ta _ rfl hl hx (ht.below hbw)
  have HS := Lib.hid (saysS_ahead r)
  have HA := fun v w' => ahead_any r v w'
  have hA2 := aheadS_le r
  have hk := mcells (w := w) (vs := #[.bool r.d, .string r.nm, .slice ta r.ts.length tcap]) (t := 50)
  have k0 := hk 0 _ rfl
  have k1 := hk 1 _ rfl
  have k2 := hk 2 _ rfl
  have hwz : w.heap.size < (w.alloc (.cells #[.bool r.d, .string r.nm, .slice ta r.ts.length tcap] 50)).heap.size := by simp
  obtain ⟨S, hSS⟩ : ∃ S, saysS r = S := ⟨_, rfl⟩
  obtain ⟨A, hAA⟩ : ∃ A, aheadS r = A := ⟨_, rfl⟩
  have hLb : (bareL r).length ≤ 140737488355328 := by
    have := bareS_len r.ts
    unfold bareL; omega
  obtain ⟨L, hLL⟩ : ∃ L, bareL r = L := ⟨_, rfl⟩
  have hLL' := hLL
  unfold bareL at hLL'
  rw [hLL'] at HB1
  rw [hLL] at hLb
  rw [hSS, hAA, hLL] at HS
  rw [hAA] at HA hA2
  rw [hSS]
  clear hSS hAA hLL hLL' ht hk hx
  go_enter Tryz.func35, Tryz.ntmps35
  go_wp2_with fail
  refine HB1.mono ?_
  rintro e w1 ⟨⟨v1, rfl, ho1⟩, hb1⟩
  obtain ⟨a1, cap1, rfl⟩ := row_shape ho1
  have hcap := row_cap2 ho1
  have hB1 := hbw.trans (hb1.mono hbw.size)
  have e0 := (hb1.cell (p := ⟨w.heap.size, 0, none⟩) hwz).trans k0
  have e1 := (hb1.cell (p := ⟨w.heap.size, 1, none⟩) hwz).trans k1
  have e2 := (hb1.cell (p := ⟨w.heap.size, 2, none⟩) hwz).trans k2
  clear k0 k1 k2 HB1
  go_wp2_with fail
  refine (HA _ _).mono ?_
  rintro e w2 ⟨rfl, hb2⟩
  have hB2 := hB1.trans (hb2.mono hB1.size)
  have ho2 := row_below ho1 hb2
  clear e0 e1 e2 ho1 HA
  have hK : Hid (S.length = L.length - (min (A : Int) (L.length : Int)).toNat) := Lib.hid (by rw [HS.out, List.length_drop]; omega)
  have hD : Hid (S = L.drop (min (A : Int) (L.length : Int)).toNat) := Lib.hid (by
    rw [HS.out]
    by_cases h : A ≤ L.length
    · congr 1; omega
    · rw [List.drop_eq_nil_of_le (by omega), List.drop_eq_nil_of_le (by omega)])
  go_wp2
  · go_ret
    rw [hK.out]
    exact ⟨⟨_, _, rfl, by omega, fun hp => by rw [hK.out] at hp; omega⟩, hB2⟩
  · go_ret
    rw [hK.out]
    exact ⟨⟨_, _, rfl, by omega, by rw [hD.out]; exact says_map (row_base (b' := w.heap.size) (by simp) ho2) rfl _⟩, hB2⟩

end Go.Proofs.YtaodjipnffgihaaGreat
