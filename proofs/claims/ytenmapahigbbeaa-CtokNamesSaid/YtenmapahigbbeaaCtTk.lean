/- ctok.Tokens. -/
import Derived.Test.YtenmapahigbbeaaCtW
import Derived.Deep.LoopGhost
namespace Go.Proofs.Ytenmapahigbbeaa
open Go.RowKit Go.Shelf

theorem tzCells_got {ys : List Tz} {k : Nat} {y : Tz} (h : ys[k]? = some y) (j : Nat) (hj : j < 5) : (tzCells ys)[k * 5 + j]? = (tzCell y)[j]? := by
  induction ys generalizing k with
  | nil => simp at h
  | cons q ys ih =>
    have hc : tzCells (q :: ys) = tzCell q ++ tzCells ys := by simp [tzCells, tzCell]
    cases k with
    | zero =>
      simp only [List.getElem?_cons_zero, Option.some.injEq] at h
      subst h
      rw [hc, List.getElem?_append_left (by simp [tzCell]; omega)]
      simp
    | succ k =>
      simp only [List.getElem?_cons_succ] at h
      rw [hc, List.getElem?_append_right (by simp [tzCell]; omega)]
      have : (k + 1) * 5 + j - (tzCell q).length = k * 5 + j := by simp [tzCell]; omega
      rw [this]
      exact ih h
theorem tzRow_own {W : World} {base n cap : Nat} {a : Option Addr} {ts : List Tz} (h : W.ownsRow base 49 5 (.slice a n cap) n (tzCells ts)) (hn : 0 < n) : ∃ g, a = some ⟨g, 0, none⟩ ∧ base ≤ g ∧ g < W.heap.size ∧ TzRow W g ts := by
  obtain ⟨g, ha, hg, hc⟩ := row_pos hn h
  subst ha
  refine ⟨g, rfl, (h.lt g rfl).1, hg, fun i y hy => ?_⟩
  exact ⟨hc _ _ (tzCells_got hy 0 (by decide)), hc _ _ (tzCells_got hy 1 (by decide)), hc _ _ (tzCells_got hy 2 (by decide)), hc _ _ (tzCells_got hy 3 (by decide)), hc _ _ (tzCells_got hy 4 (by decide))⟩

/-- A token of C: its class, its text. -/
def clsA (t : Tz) : Nat × ByteArray := ((clsR t.k t.tx).1, (clsR t.k t.tx).2.1)
def ctCell (c : Nat × ByteArray) : List Value := [.int .i64 c.1, .string c.2]
def ctCells (cs : List (Nat × ByteArray)) : List Value := cs.flatMap ctCell
theorem ctCells_snoc (cs : List (Nat × ByteArray)) (c : Nat × ByteArray) : ctCells (cs ++ [c]) = ctCells cs ++ ctCell c := by simp [ctCells, ctCell]
/-- The tokens of C of bare tokens; or the first one that is none. -/
def tokR (bs : List Tz) : List (Nat × ByteArray) × Nat × Nat := match bs.findIdx? (fun t => clsN t.k t.tx == 0) with
  | none => (bs.map clsA, 0, 0)
  | some i => ([], i, 40)
theorem clsR_err (k : Int) (s : ByteArray) : (clsN k s = 0 ∧ clsR k s = (0, ⟨#[]⟩, 40)) ∨ (clsN k s ≠ 0 ∧ (clsR k s).2.2 = 0) := by
  unfold clsR
  by_cases h : clsN k s = 0
  · rw [if_pos h]; exact .inl ⟨h, rfl⟩
  · rw [if_neg h]
    refine .inr ⟨h, ?_⟩
    split <;> rfl
theorem tokR_stop {bs : List Tz} {k : Nat} {t : Tz} (h : ∀ j u, j < k → bs[j]? = some u → clsN u.k u.tx ≠ 0) (ht : bs[k]? = some t) (h0 : clsN t.k t.tx = 0) : tokR bs = ([], k, 40) := by
  have : bs.findIdx? (fun t => clsN t.k t.tx == 0) = some k := by
    rw [List.findIdx?_eq_some_iff_getElem]
    obtain ⟨hlt, he⟩ := List.getElem?_eq_some_iff.1 ht
    refine ⟨hlt, by rw [he]; simp [h0], fun j hj => ?_⟩
    have := h j bs[j] hj (List.getElem?_eq_getElem (by omega))
    simpa using this
  unfold tokR
  rw [this]
theorem tokR_all {bs : List Tz} (h : ∀ j u, j < bs.length → bs[j]? = some u → clsN u.k u.tx ≠ 0) : tokR bs = (bs.map clsA, 0, 0) := by
  have : bs.findIdx? (fun t => clsN t.k t.tx == 0) = none := by
    rw [List.findIdx?_eq_none_iff]
    intro x hx
    obtain ⟨j, hj, e⟩ := List.getElem_of_mem hx
    have := h j x hj (by rw [List.getElem?_eq_getElem hj, e])
    simpa using this
  unfold tokR
  rw [this]
theorem infoCt : (Try.prog.info? 42).map (fun i => (i.zero, i.size, i.bytes)) = some (some (.agg #[.int .i64 0, .string ⟨#[]⟩]), 2, 24) := by kernel_rfl
theorem cell_two_new (w : World) (a b : Value) (t : TypeId) : ∀ j u, [a, b][j]? = some u → (w.alloc (.cells #[a, b] t)).cell? ((⟨w.heap.size, 0, none⟩ : Addr).add j) = some u := by
  intro j u hj
  match j, hj with
  | 0, hj => simp at hj; subst hj; simp [Addr.add]
  | 1, hj => simp at hj; subst hj; simp [Addr.add]
  | j + 2, hj => simp at hj
theorem cell_two_two (w : World) (o : Obj) (a b : Value) (t : TypeId) : ∀ j u, [a, b][j]? = some u → ((w.alloc o).alloc (.cells #[a, b] t)).cell? ((⟨w.heap.size + 1, 0, none⟩ : Addr).add j) = some u := by
  have h := cell_two_new (w.alloc o) a b t
  rw [World.size_alloc] at h
  exact h
/-- The texts of bare tokens are the tokens'. -/
theorem bareS_tx (ts : List Tz) : ∀ t ∈ (bareS ts).1, ∃ u ∈ ts, t.tx = u.tx := by
  have key : ∀ (l : List Tz) (q : List Tz × Bool), ∀ t ∈ (l.foldl bareStep q).1, t ∈ q.1 ∨ ∃ u ∈ l, t.tx = u.tx := by
    intro l
    induction l with
    | nil => intro q t h; exact .inl h
    | cons x l ih =>
      intro q t h
      rw [List.foldl_cons] at h
      rcases ih _ t h with h1 | ⟨u, hu, e⟩
      · unfold bareStep at h1
        split at h1
        · exact .inl h1
        · rcases List.mem_append.1 h1 with h2 | h2
          · exact .inl h2
          · rw [List.mem_singleton] at h2
            exact .inr ⟨x, List.mem_cons_self, by rw [h2]⟩
      · exact .inr ⟨u, List.mem_cons_of_mem _ hu, e⟩
  intro t ht
  rcases key ts ([], false) t ht with h | h
  · cases h
  · exact h
theorem risi {v : Value} {a b c d : Int} (h : a = b) (h2 : c = d) : Ending.returned (.tuple #[v, .int .i64 a, .int .i64 c]) = .returned (.tuple #[v, .int .i64 b, .int .i64 d]) := by rw [h, h2]

theorem row_base_of {w : World} {b b' n : Nat} {e : TypeId} {size : Nat} {v : Value} {xs : List Value} (hb : b' ≤ b) (h : w.ownsRow b e size v n xs) : w.ownsRow b' e size v n xs := by
  refine ⟨h.1, ?_⟩
  rcases h.2 with h1 | ⟨g, cap, cur, h1, h2, h3⟩
  · exact .inl h1
  · exact .inr ⟨g, cap, cur, h1, Nat.le_trans hb h2, h3⟩
/-- What Tokens answers. -/
def TokRes (w : World) (bs : List Tz) (e : Ending) (w' : World) : Prop :=
  (∃ v, e = .returned (.tuple #[v, .int .i64 ((tokR bs).2.1 : Nat), .int .i64 ((tokR bs).2.2 : Nat)]) ∧ w'.ownsRow w.heap.size 42 2 v (tokR bs).1.length (ctCells (tokR bs).1)) ∧ Below w.heap.size w w'

set_option maxRecDepth 100000 in
set_option maxHeartbeats 4000000 in
theorem Tokens_any (ts : List Tz) (n cap : Nat) (a : Option Addr) (w : World) (hn : ts.length = n) (hn2 : n * 48 ≤ 140737488355328) (ht : ∀ t ∈ ts, t.tx.size ≤ 200000) (hL : LibVar w)
    (hT : 0 < n → ∃ g, a = some ⟨g, 0, none⟩ ∧ g < w.heap.size ∧ TzRow w g ts) :
    Calls Try.prog 21 #[.slice a n cap] w (TokRes w (bareS ts).1) := by
  obtain ⟨i0, hi, hz0, hz1, hz2⟩ := info_parts infoCt
  have CB := bare_any ts n cap a w hn hn2 (fun t h => Nat.le_trans (ht t h) (by decide)) hT
  have hbl := bareS_len ts
  have htx : ∀ t ∈ (bareS ts).1, t.tx.size ≤ 200000 := by
    intro t h
    obtain ⟨u, hu, e⟩ := bareS_tx ts t h
    rw [e]
    exact ht u hu
  generalize (bareS ts).1 = bs at *
  obtain ⟨m, hm⟩ : ∃ m, bs.length = m := ⟨_, rfl⟩
  rw [hm] at CB hbl
  rw [hn] at hbl
  have HM := Lib.hid hm
  have HX := Lib.hid htx
  clear hm htx hn ht hT
  go_enter Try.func21, Try.ntmps21
  go_wp2_with fail
  refine CB.mono ?_
  rintro e w1 ⟨⟨v1, rfl, hrow1⟩, hb1⟩
  obtain ⟨a1, cap1, rfl⟩ := row_shape hrow1
  have HR1 := Lib.hid (fun h => tzRow_own hrow1 h)
  have hs1 := hb1.size
  clear hrow1 CB
  go_wp2
  go_loopg [5, 13] m (fun g v i wx => ∃ k : Nat, k ≤ m ∧ i = .int .i64 k ∧ g = m - k ∧ Hid (∀ j u, j < k → bs[j]? = some u → clsN u.k u.tx ≠ 0) ∧ wx.ownsRow w1.heap.size 42 2 v k (ctCells ((bs.take k).map clsA)) ∧ Below w1.heap.size w1 wx)
  case atStart => exact ⟨0, Nat.zero_le _, rfl, rfl, Lib.hid (fun j u h => by omega), World.ownsRow_nil _ _ _ _, Below.refl _ _⟩
  case round =>
    obtain ⟨k, hk, rfl, rfl, HB, hrow, hbx⟩ := hrel
    by_cases hlt : k < m
    · obtain ⟨t, ht⟩ : ∃ t, bs[k]? = some t := ⟨_, List.getElem?_eq_getElem (by rw [HM.out]; exact hlt)⟩
      obtain ⟨g, rfl, _, hg1, hr⟩ := HR1.out (by omega)
      obtain ⟨c0, c1, c2, c3, c4⟩ := (hr.below hbx hg1) k t ht
      have hX := HX.out t (List.mem_of_getElem? ht)
      have C := fun w' (hb : Below w1.heap.size w1 w') => Class_any t.k t.tx w' hX (libVar_below (hb1.trans (hb.mono hs1)) hL)
      have hbs := hbx.size
      have hb2 := hbx.alloc hbs (.cells #[.int .i64 t.k, .string t.tx, .int .i64 t.a, .int .i64 t.e, .bool t.sp] 49)
      have j1 : (k : Int) < (m : Int) := by omega
      have j0 : (0 : Int) ≤ (k : Int) := by omega
      clear hr
      rcases clsR_err t.k t.tx with ⟨h0, hc⟩ | ⟨h0, hc⟩
      · have HO := Lib.hid (tokR_stop HB.out ht h0)
        simp only [hc] at C
        clear ht hc h0
        go_wp2_with fail
        refine (C _ hb2).mono ?_
        rintro e w2 ⟨rfl, hb3⟩
        go_wp2
        go_ret3
        have hB := hb1.trans ((hb2.trans (hb3.mono hb2.size)).mono hs1)
        refine ⟨⟨_, risi (by rw [HO.out]) (by rw [HO.out]; rfl), ?_⟩, hB.alloc hB.size _⟩
        rw [HO.out]
        exact World.ownsRow_nil _ _ _ _
      · have HN : Hid (∀ j u, j < k + 1 → bs[j]? = some u → clsN u.k u.tx ≠ 0) := Lib.hid (fun j u hj hu => by
          by_cases e : j = k
          · subst e
            rw [ht, Option.some.injEq] at hu
            rw [← hu]; exact h0
          · exact HB.out j u (by omega) hu)
        have HT2 : Hid ((bs.take (k + 1)).map clsA = (bs.take k).map clsA ++ [clsA t]) := Lib.hid (by
          rw [List.take_add_one, ht, List.map_append]; rfl)
        have hcl : clsA t = ((clsR t.k t.tx).1, (clsR t.k t.tx).2.1) := rfl
        generalize clsR t.k t.tx = Rc at *
        obtain ⟨c, x, e0⟩ := Rc
        simp only at C hc hcl
        subst hc
        rw [hcl] at HT2
        have hrow3 := fun (w2 : World) (h : Below (wr.alloc (.cells #[.int .i64 t.k, .string t.tx, .int .i64 t.a, .int .i64 t.e, .bool t.sp] 49)).heap.size (wr.alloc (.cells #[.int .i64 t.k, .string t.tx, .int .i64 t.a, .int .i64 t.e, .bool t.sp] 49)) w2) => (row_below (hrow.alloc (.cells #[.int .i64 t.k, .string t.tx, .int .i64 t.a, .int .i64 t.e, .bool t.sp] 49)) h).alloc (.cells #[.int .i64 c, .string x] 42)
        have hlk : ((bs.take k).map clsA).length = k := by rw [List.length_map, List.length_take, HM.out]; omega
        have hB4 : ∀ w2, Below (wr.alloc (.cells #[.int .i64 t.k, .string t.tx, .int .i64 t.a, .int .i64 t.e, .bool t.sp] 49)).heap.size (wr.alloc (.cells #[.int .i64 t.k, .string t.tx, .int .i64 t.a, .int .i64 t.e, .bool t.sp] 49)) w2 → Below w1.heap.size w1 (w2.alloc (.cells #[.int .i64 c, .string x] 42)) := fun w2 h => by
          have h2 := hb2.trans (h.mono hb2.size)
          exact h2.alloc h2.size _
        clear ht h0 hcl
        go_wp2_with fail
        refine (C _ hb2).mono ?_
        rintro e w2 ⟨rfl, hb3⟩
        have HR4 := Lib.hid (hrow3 w2 hb3)
        have hB5 := hB4 w2 hb3
        have hs5 := hB5.size
        rw [World.size_alloc] at hs5
        clear hrow3 hB4 C hrow
        go_wp2_with (at_builtin; refine wpList_append_own _ rfl _ _ 45 rfl w1.heap.size 42 i0 (.agg #[.int .i64 0, .string ⟨#[]⟩]) 2 24 Try.underlying45 hi hz0 hz1 hz2 rfl (by decide) _ _ _ rfl (HR4.out.alloc _) ⟨w2.heap.size + 1, 0, none⟩ 1 1 (ctCell (c, x)) rfl rfl (cell_two_two _ _ _ _ _) (by simp [Value.oneCell', ctCell]) (by unfold maxLen; omega) (by omega) (by simp; omega) ?_; intro v' w3 hown hgrow hn3; clear hn3; have hL4 := HR4.out.lt; have hB6 := (hB5.alloc (by have := hB5.size; exact this) _).grown hgrow (by simp; omega) (fun j e => (hL4 j e).1))
        go_roundg (m - (k + 1))
        case rel =>
          refine ⟨k + 1, by omega, by go_num, rfl, HN, ?_, hB6⟩
          rw [HT2.out, ctCells_snoc]
          exact hown
        case measure => omega
    · obtain rfl : k = m := by omega
      have HO := Lib.hid (tokR_all (bs := bs) (fun j u hj hu => HB.out j u (by rw [← HM.out]; exact hj) hu))
      have HT3 : Hid ((bs.take k).map clsA = bs.map clsA) := Lib.hid (by rw [List.take_of_length_le (by rw [HM.out]; exact Nat.le_refl _)])
      have i1 : ¬ (k : Int) < (k : Int) := by omega
      go_wp2
      go_ret3
      refine ⟨⟨_, risi (by rw [HO.out]; rfl) (by rw [HO.out]; rfl), ?_⟩, hb1.trans (hbx.mono hs1)⟩
      rw [HO.out, ← HT3.out]
      simp only
      rw [List.length_map, List.length_take, HM.out, Nat.min_self]
      exact row_base_of hs1 hrow

end Go.Proofs.Ytenmapahigbbeaa
