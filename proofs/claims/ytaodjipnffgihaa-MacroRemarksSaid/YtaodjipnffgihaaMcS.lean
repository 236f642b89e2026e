/- What a list of tokens defines (pure). -/
import Derived.Test.YtaodjipnffgihaaBare
namespace Go.Proofs.Ytaodjipnffgihaa

/-- A macro token; a macro. -/
structure Pz where
  k : Int
  tx : ByteArray
  sp : Bool
  ps : List ByteArray
structure Mz where
  nm : ByteArray
  fn : Bool
  ps : List ByteArray
  vr : Bool
  bs : List Pz
theorem Pz.ext' {a b : Pz} (h1 : a.k = b.k) (h2 : a.tx = b.tx) (h3 : a.sp = b.sp) (h4 : a.ps = b.ps) : a = b := by
  cases a; cases b; simp_all
theorem Mz.ext' {a b : Mz} (h1 : a.nm = b.nm) (h2 : a.fn = b.fn) (h3 : a.ps = b.ps) (h4 : a.vr = b.vr) (h5 : a.bs = b.bs) : a = b := by
  cases a; cases b; simp_all
/-- No macro. -/
def mz0 : Mz := ⟨⟨#[]⟩, false, [], false, []⟩

def vaL : List UInt8 := [95, 95, 86, 65, 95, 65, 82, 71, 83, 95, 95]
/-- Is it that punctuator, that word? -/
def isP (t : Tz) (l : List UInt8) : Bool := t.k == 5 && t.tx.toList == l
def isW (t : Tz) (l : List UInt8) : Bool := t.k == 1 && t.tx.toList == l
def amongS (ps : List ByteArray) (s : ByteArray) : Bool := ps.any (fun p => p.toList == s.toList)
/-- Are no two equal? (each beside those ahead of it) -/
def distR : List ByteArray → List ByteArray → Bool
  | _, [] => true
  | acc, p :: ps => !amongS acc p && distR (acc ++ [p]) ps
def distS (ps : List ByteArray) : Bool := distR [] ps
theorem amongS_app (a b : List ByteArray) (s : ByteArray) : amongS (a ++ b) s = (amongS a s || amongS b s) := List.any_append
theorem distR_snoc : ∀ (acc ps : List ByteArray) (p : ByteArray), distR acc (ps ++ [p]) = (distR acc ps && !amongS (acc ++ ps) p)
  | acc, [], p => by simp [distR]
  | acc, q :: ps, p => by
    rw [List.cons_append, distR, distR, distR_snoc (acc ++ [q]) ps p, Bool.and_assoc]
    simp
theorem distS_snoc (ps : List ByteArray) (p : ByteArray) : distS (ps ++ [p]) = (distS ps && !amongS ps p) := by
  unfold distS
  rw [distR_snoc, List.nil_append]

def finS (acc : List ByteArray) (v : Bool) (l : List Tz) : Option (List ByteArray × Bool × List Tz) := if distS acc then some (acc, v, l) else none
def wordP (t : Tz) : Bool := t.k == 1 && !(t.tx.toList == vaL)
/-- The parameters; whether ... ends them; what stands behind. -/
def parP : List ByteArray → List Tz → Option (List ByteArray × Bool × List Tz)
  | acc, t :: u :: l =>
    if isP t [46, 46, 46] then (if isP u [41] then finS acc true l else none)
    else if wordP t then
      if isP u [44] then parP (acc ++ [t.tx]) l
      else if isP u [41] then finS (acc ++ [t.tx]) false l else none
    else none
  | _, _ => none
def cutP (l : List Tz) : Option (List ByteArray × Bool × List Tz) := match l with
  | t :: r => if isP t [41] then some ([], false, r) else parP [] l
  | [] => none
theorem finS_no {acc : List ByteArray} {v : Bool} {l : List Tz} (h : distS acc = false) : finS acc v l = none := by unfold finS; rw [h]; rfl
/-- Once two are equal there is no way back. -/
theorem parP_no : ∀ (m : Nat) (l : List Tz) (acc : List ByteArray), l.length ≤ m → distS acc = false → parP acc l = none
  | m, [], acc, _, h => by unfold parP; rfl
  | m, [t], acc, _, h => by unfold parP; rfl
  | m + 1, t :: u :: l, acc, hm, h => by
    have h2 : distS (acc ++ [t.tx]) = false := by rw [distS_snoc, h]; rfl
    have ih := parP_no m l (acc ++ [t.tx]) (by simp at hm; omega) h2
    rw [parP, finS_no h, finS_no h2, ih]
    simp
  | 0, t :: u :: l, acc, hm, h => by simp at hm

def pasteB (t : Tz) : Bool := isP t [35, 35] || isP t [37, 58, 37, 58]
def hashP (t : Tz) : Bool := isP t [35] || isP t [37, 58]
/-- Is the first one a word that stands for an argument? -/
def argB (ps : List ByteArray) (l : List Tz) : Bool := match l with
  | t :: _ => t.k == 1 && (amongS ps t.tx || t.tx.toList == vaL)
  | [] => false
/-- May a token with those behind it be? -/
def oneT (fn vr : Bool) (ps : List ByteArray) (t : Tz) (l : List Tz) : Bool := !(isW t vaL && !vr) && !(fn && hashP t && !argB ps l)
def mayT (fn vr : Bool) (ps : List ByteArray) : List Tz → Bool
  | [] => true
  | t :: l => oneT fn vr ps t l && mayT fn vr ps l
def endsB (l : List Tz) : Bool := match l with
  | [] => true
  | t :: r => !pasteB t && !pasteB ((t :: r).getLast (by simp))
def mayB (fn vr : Bool) (ps : List ByteArray) (l : List Tz) : Bool := endsB l && mayT fn vr ps l

def pzOf (t : Tz) : Pz := ⟨t.k, t.tx, t.sp, []⟩
/-- The first one counts as having no Space. -/
def firstNo : List Pz → List Pz
  | [] => []
  | p :: l => { p with sp := false } :: l
theorem firstNo_len : ∀ l : List Pz, (firstNo l).length = l.length
  | [] => rfl
  | _ :: _ => rfl
def bodyM (nm : ByteArray) (fn : Bool) (ps : List ByteArray) (vr : Bool) (l : List Tz) : Option Mz := if mayB fn vr ps l then some ⟨nm, fn, ps, vr, firstNo (l.map pzOf)⟩ else none
/-- May it be a name? -/
def nameP (t : Tz) : Bool := t.k == 1 && !(t.tx.toList == [100, 101, 102, 105, 110, 101, 100] || t.tx.toList == vaL || t.tx.toList == [95, 95, 76, 73, 78, 69, 95, 95] || t.tx.toList == [95, 80, 114, 97, 103, 109, 97])
/-- The macro without its body, and the body. -/
def headS : List Tz → Option (Mz × List Tz)
  | [] => none
  | t :: r => if nameP t then (match r with
    | [] => some (⟨t.tx, false, [], false, []⟩, [])
    | u :: r' => if u.sp then some (⟨t.tx, false, [], false, []⟩, u :: r') else if isP u [40] then (match cutP r' with
      | none => none
      | some (p, v, b) => some (⟨t.tx, true, p, v, []⟩, b)) else none) else none
def defineS (ts : List Tz) : Option Mz := match headS ts with
  | none => none
  | some (m, b) => if mayB m.fn m.vr m.ps b then some { m with bs := firstNo (b.map pzOf) } else none

/-- Are two macros equal? -/
def sameTx : List ByteArray → List ByteArray → Bool
  | [], [] => true
  | a :: l, b :: r => a.toList == b.toList && sameTx l r
  | _, _ => false
def sameP (a b : Pz) : Bool := a.k == b.k && a.tx.toList == b.tx.toList && a.sp == b.sp && sameTx a.ps b.ps
def samePs : List Pz → List Pz → Bool
  | [], [] => true
  | a :: l, b :: r => sameP a b && samePs l r
  | _, _ => false
def sameM (a b : Mz) : Bool := a.nm.toList == b.nm.toList && a.fn == b.fn && sameTx a.ps b.ps && a.vr == b.vr && samePs a.bs b.bs

/-- How many tokens may stand behind the parameters. -/
theorem parP_len : ∀ (m : Nat) (l : List Tz) (acc : List ByteArray) (x : List ByteArray × Bool × List Tz), l.length ≤ m → parP acc l = some x → x.2.2.length ≤ l.length ∧ x.1.length ≤ acc.length + l.length
  | m, [], acc, x, _, h => by unfold parP at h; cases h
  | m, [t], acc, x, _, h => by unfold parP at h; cases h
  | m + 1, t :: u :: l, acc, x, hm, h => by
    rw [parP] at h
    have hf : ∀ (a : List ByteArray) (v : Bool), finS a v l = some x → x.2.2.length ≤ l.length ∧ x.1.length ≤ a.length := by
      intro a v h
      unfold finS at h
      split at h
      · cases h; exact ⟨Nat.le_refl _, Nat.le_refl _⟩
      · cases h
    simp only [List.length_cons] at hm ⊢
    split at h
    · split at h
      · have := hf _ _ h; omega
      · cases h
    · split at h
      · split at h
        · have := parP_len m l (acc ++ [t.tx]) x (by omega) h
          rw [List.length_append, List.length_singleton] at this; omega
        · split at h
          · have := hf _ _ h
            rw [List.length_append, List.length_singleton] at this; omega
          · cases h
      · cases h
  | 0, t :: u :: l, acc, x, hm, h => by simp at hm

end Go.Proofs.Ytaodjipnffgihaa
