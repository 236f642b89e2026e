/- ctok.numbers. -/
import Derived.Test.YtenmapahigbbeaaCtR
import Derived.Test.YtenmapahigbbeaaCtM
namespace Go.Proofs.Ytenmapahigbbeaa
open Go.RowKit Go.Shelf

attribute [local go_sem] Oper.semAt_some

theorem infoI64 : (Try.prog.info? 2).map (fun i => (i.zero, i.size, i.bytes)) = some (some (.int .i64 0), 1, 8) := by kernel_rfl
def intCell (n : Nat) : Value := .int .i64 n
def intCells (ns : List Nat) : List Value := ns.map intCell
theorem intCells_snoc (ns : List Nat) (n : Nat) : intCells (ns ++ [n]) = intCells ns ++ [intCell n] := by simp [intCells]
theorem cell_one_new (w : World) (a : Value) (t : TypeId) : ∀ j u, [a][j]? = some u → (w.alloc (.cells #[a] t)).cell? ((⟨w.heap.size, 0, none⟩ : Addr).add j) = some u := by
  intro j u hj
  match j, hj with
  | 0, hj => simp at hj; subst hj; simp [Addr.add]
  | j + 1, hj => simp at hj
/-- The three results of numbers, boxed. -/
structure TriW (h : Nat) (p : ByteArray) (v : Value) (f : Bool) (W : World) : Prop where
  pre : Boxed W h 9 (.string p)
  row : Boxed W (h + 1) 32 v
  fit : Boxed W (h + 1 + 1) 4 (.bool f)
theorem TriW.grow {B h : Nat} {p : ByteArray} {v : Value} {f : Bool} {X Y : World} {row : Option Nat} (H : TriW h p v f X) (hg : X.grownBy Y row) (hr : ∀ r, row = some r → B ≤ r ∧ ∃ o : Obj, X.heap[r]? = some o ∧ o.isCells = false) : TriW h p v f Y :=
  ⟨boxed_grow H.pre hg hr, boxed_grow H.row hg hr, boxed_grow H.fit hg hr⟩
theorem TriW.below {h : Nat} {p : ByteArray} {v : Value} {f : Bool} {W W' : World} (H : TriW h p v f W) (hb : Below W.heap.size W W') : TriW h p v f W' :=
  ⟨(hb.block _ H.pre.lt).trans H.pre, (hb.block _ H.row.lt).trans H.row, (hb.block _ H.fit.lt).trans H.fit⟩
theorem TriW.setP {h : Nat} {p : ByteArray} {v : Value} {f : Bool} {W : World} (H : TriW h p v f W) (u : ByteArray) : TriW h u v f (W.setCell ⟨h, 0, none⟩ (.string u)) := ⟨H.pre.set _, H.row.other (by omega) _, H.fit.other (by omega) _⟩
theorem TriW.setV {h : Nat} {p : ByteArray} {v : Value} {f : Bool} {W : World} (H : TriW h p v f W) (u : Value) : TriW h p u f (W.setCell ⟨h + 1, 0, none⟩ u) := ⟨H.pre.other (by omega) _, H.row.set _, H.fit.other (by omega) _⟩
theorem TriW.setF {h : Nat} {p : ByteArray} {v : Value} {f : Bool} {W : World} (H : TriW h p v f W) (u : Bool) : TriW h p v u (W.setCell ⟨h + 1 + 1, 0, none⟩ (.bool u)) := ⟨H.pre.other (by omega) _, H.row.other (by omega) _, H.fit.set _⟩
theorem tri_new (w : World) : TriW w.heap.size ⟨#[]⟩ (.slice none 0 0) false (((w.alloc (.cells #[.string ⟨#[]⟩] 9)).alloc (.cells #[.slice none 0 0] 32)).alloc (.cells #[.bool false] 4)) := by
  have x0 := Boxed.new w 9 (.string ⟨#[]⟩)
  have x1 := Boxed.new (w.alloc (.cells #[.string ⟨#[]⟩] 9)) 32 (.slice none 0 0)
  have x2 := Boxed.new ((w.alloc (.cells #[.string ⟨#[]⟩] 9)).alloc (.cells #[.slice none 0 0] 32)) 4 (.bool false)
  simp only [World.size_alloc] at x1 x2
  exact ⟨(x0.alloc _).alloc _, x1.alloc _, x2⟩
theorem results_tri (tmps : Array Value) (A B C : Nat) (v u x : Value) (W : World) (h2 : tmps[4]?.getD undef = .pointer (some ⟨A, 0, none⟩)) (h3 : tmps[5]?.getD undef = .pointer (some ⟨B, 0, none⟩)) (h4 : tmps[6]?.getD undef = .pointer (some ⟨C, 0, none⟩))
    (c2 : W.cell? ⟨A, 0, none⟩ = some v) (c3 : W.cell? ⟨B, 0, none⟩ = some u) (c4 : W.cell? ⟨C, 0, none⟩ = some x) : (results Try.f31 tmps).run Try.prog W = .ok (.tuple #[v, u, x]) W := by
  simp [results, Try.results31, go_sem, h2, h3, h4, c2, c3, c4]

set_option maxRecDepth 100000 in
set_option maxHeartbeats 2000000 in
theorem numbers_not (s : ByteArray) (k : Nat) (w : World) (hs : s.size ≤ 200000) (hL : LibVar w) (h : oneOf s ≠ (k, true)) :
    Calls Try.prog 31 #[.int .i64 k, .string s] w fun e w' => e = .returned (.tuple #[.string ⟨#[]⟩, .slice none 0 0, .bool false]) ∧ Below w.heap.size w w' := by
  have C := fun w' (hb : Below w.heap.size w w') => cutQuotes_no s k w' hs (libVar_below hb hL) h
  have T := tri_new w
  have hB := below3 w (.cells #[.string ⟨#[]⟩] 9) (.cells #[.slice none 0 0] 32) (.cells #[.bool false] 4)
  obtain ⟨W1, hW1⟩ : ∃ W1, ((w.alloc (.cells #[.string ⟨#[]⟩] 9)).alloc (.cells #[.slice none 0 0] 32)).alloc (.cells #[.bool false] 4) = W1 := ⟨_, rfl⟩
  rw [hW1] at T hB
  go_enter Try.func31, Try.ntmps31
  go_wp2_with fail
  refine (C _ hB).mono ?_
  rintro e w1 ⟨rfl, hb1⟩
  have T1 := T.below hb1
  have hB1 := hB.trans (hb1.mono hB.size)
  have T2 := (((T1.setP ⟨#[]⟩).setF false).setP ⟨#[]⟩).setV (.slice none 0 0)
  have T3 := T2.setF false
  clear T T2 C hW1
  have c0 := T1.pre.cell
  have c1 := T1.row.cell
  have c2 := T1.fit.cell
  have f0 := T1.pre.frozen
  have f1 := T1.row.frozen
  have f2 := T1.fit.frozen
  have hsz := hB1.size
  go_wp2
  refine bodyPost_ret (results_tri _ w.heap.size (w.heap.size + 1) (w.heap.size + 1 + 1) _ _ _ _ rfl rfl rfl T3.pre.cell T3.row.cell T3.fit.cell) rfl ?_
  exact ⟨rfl, ((((hB1.setCell (Nat.le_refl _) _).setCell (by simp; omega) _).setCell (Nat.le_refl _) _).setCell (by simp) _).setCell (by simp; omega) _⟩

end Go.Proofs.Ytenmapahigbbeaa
