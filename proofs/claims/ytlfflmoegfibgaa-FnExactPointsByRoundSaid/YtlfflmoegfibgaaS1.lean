import Derived.Test.YtlfflmoegfibgaaSA
import Derived.Test.YtlfflmoegfibgaaVLTable
import Derived.Test.YtlfflmoegfibgaaVLA
/- A part of the proof: S1. No conditions of its own. -/
namespace Go.Proofs.Ytlfflmoegfibgaa
open Go.VL
attribute [local irreducible] VWr VOps VD Calls

/-- What venues have for a team of a round. -/
def VAt (r l : List Int) (a : Nat) : Prop := (r.getD a 0 = a ∧ l.getD a 0 = -1) ∨ (r.getD a 0 ≠ a ∧ 0 ≤ l.getD a 0 ∧ l.getD a 0 + l.getD (r.getD a 0).toNat 0 = 1)
/-- What venues have for a round. -/
def RowGoes (n : Int) (r l : List Int) : Prop := ∀ a : Nat, (a : Int) < n → VAt r l a
def InV (lo x : Int) : Prop := lo ≤ x ∧ x ≤ 1
/-- The form of a row. -/
def RowForm (lo n : Int) (l : List Int) : Prop := (l.length : Int) = n ∧ ∀ x ∈ l, InV lo x
def Form (n : Int) (m : Nat) (vs : List (List Int)) : Prop := vs.length = m ∧ ∀ l ∈ vs, RowForm (-1) n l
def Ven (n : Int) (rs vs : List (List Int)) : Prop := ∀ (i : Nat) (r l : List Int), rs[i]? = some r → vs[i]? = some l → RowGoes n r l
def exch (x : Int) : Int := if x = -1 then -1 else 1 - x
/-- The number of a team in a round. -/
def vat (vs : List (List Int)) (i a : Nat) : Int := (vs.getD i []).getD a 0
theorem vat_of {vs : List (List Int)} {i : Nat} {l : List Int} (h : vs[i]? = some l) (a : Nat) : vat vs i a = l.getD a 0 := by
  unfold vat; rw [List.getD_eq_getElem?_getD (l := vs), h]; rfl
theorem Form.row {n : Int} {m : Nat} {vs : List (List Int)} (h : Form n m vs) {i : Nat} (hi : i < m) : ∃ l, vs[i]? = some l ∧ RowForm (-1) n l := by
  have := h.1
  refine ⟨_, List.getElem?_eq_getElem (by omega), h.2 _ (List.getElem_mem _)⟩
theorem Form.tab {k m : Nat} {vs : List (List Int)} (h : Form k m vs) : vs = tabN m k (vat vs) := by
  have hm := h.1
  apply List.ext_getElem (by rw [tabN_length, hm])
  intro i h1 h2
  have e := tabN_get (k := k) (g := vat vs) (show i < m by omega)
  rw [List.getElem?_eq_getElem h2] at e
  rw [Option.some.inj e]
  obtain ⟨l, hl, h3, _⟩ := h.row (i := i) (by omega)
  rw [List.getElem?_eq_getElem h1] at hl
  rw [Option.some.inj hl, lst_of l, show l.length = k by omega]
  exact lst_congr fun j hj => by rw [vat_of (List.getElem?_eq_getElem h1), Option.some.inj hl]
theorem Ven.at {n : Int} {rs vs : List (List Int)} (h : Ven n rs vs) {i : Nat} {r : List Int} (hr : rs[i]? = some r) (hi : i < vs.length) {a : Nat} (ha : (a : Int) < n) :
    (r.getD a 0 = a ∧ vat vs i a = -1) ∨ (r.getD a 0 ≠ a ∧ 0 ≤ vat vs i a ∧ vat vs i a + vat vs i (r.getD a 0).toNat = 1) := by
  have hl : vs[i]? = some vs[i] := List.getElem?_eq_getElem hi
  rw [vat_of hl, vat_of hl]
  exact h i r _ hr hl a ha

open Classical in
noncomputable def formC (n : Int) (rs vs : List (List Int)) : Int := if IsSch n rs then (if Form n rs.length vs then 0 else 2) else 1
open Classical in
noncomputable def areVen (n : Int) (rs vs : List (List Int)) : Bool × Int := if IsSch n rs then (if Form n rs.length vs then (decide (Ven n rs vs), 0) else (false, 2)) else (false, 1)
open Classical in
/-- The code of a schedule and venues, beside what is told. -/
noncomputable def venC (n : Int) (rs vs : List (List Int)) (told : Prop) : Int := if IsSch n rs then (if Form n rs.length vs then (if told then (if Ven n rs vs then 0 else 5) else 2) else 2) else 1
def patL (vs : List (List Int)) (a : Nat) : List Int := lst vs.length fun i => vat vs i a
open Classical in
noncomputable def patR (n : Int) (rs vs : List (List Int)) (a : Int) : List Int × Int := if venC n rs vs (0 ≤ a ∧ a < n) = 0 then (patL vs a.toNat, 0) else ([], venC n rs vs (0 ≤ a ∧ a < n))
/-- The breaks of a team before the round i. -/
def brk (vs : List (List Int)) (a : Nat) : Nat → Int
  | 0 => 0
  | i + 1 => brk vs a i + if 1 ≤ i ∧ vat vs i a = vat vs (i - 1) a ∧ vat vs i a ≠ -1 then 1 else 0
def brkL (k : Nat) (vs : List (List Int)) : List Int := lst k fun a => brk vs a vs.length
noncomputable def breaksR (n : Int) (rs vs : List (List Int)) : List Int × Int := if venC n rs vs True = 0 then (brkL n.toNat vs, 0) else ([], venC n rs vs True)
/-- In how many of the first rounds a team has the number x. -/
def cntV (vs : List (List Int)) (a : Nat) (x : Int) : Nat → Int
  | 0 => 0
  | i + 1 => cntV vs a x i + if vat vs i a = x then 1 else 0
def homL (k : Nat) (vs : List (List Int)) : List Int := lst k fun a => cntV vs a 1 vs.length
noncomputable def homesR (n : Int) (rs vs : List (List Int)) : List Int × Int := if venC n rs vs True = 0 then (homL n.toNat vs, 0) else ([], venC n rs vs True)
def Bal (k : Nat) (vs : List (List Int)) : Prop := ∀ a : Nat, a < k → -1 ≤ cntV vs a 1 vs.length - cntV vs a 0 vs.length ∧ cntV vs a 1 vs.length - cntV vs a 0 vs.length ≤ 1
open Classical in
noncomputable def balR (n : Int) (rs vs : List (List Int)) : Bool × Int := if venC n rs vs True = 0 then (decide (Bal n.toNat vs), 0) else (false, venC n rs vs True)
/-- First venues. -/
def firstG (rs : List (List Int)) (i a : Nat) : Int := if (rs.getD i []).getD a 0 = a then -1 else if (a : Int) < (rs.getD i []).getD a 0 then 1 else 0
def firstV (k : Nat) (rs : List (List Int)) : List (List Int) := tabN rs.length k (firstG rs)
open Classical in
noncomputable def firstR (n : Int) (rs : List (List Int)) : List (List Int) × Int := if IsSch n rs then (firstV n.toNat rs, 0) else ([], 1)
/-- A game exchanged. -/
def exG (vs : List (List Int)) (i a b p q : Nat) : Int := if p = i ∧ q = b then vat vs i a else if p = i ∧ q = a then vat vs i b else vat vs p q
def exV (k : Nat) (vs : List (List Int)) (i a b : Nat) : List (List Int) := tabN vs.length k (exG vs i a b)
noncomputable def exchR (n : Int) (rs vs : List (List Int)) (i a : Int) : List (List Int) × Int :=
  if venC n rs vs ((0 ≤ i ∧ i < rs.length) ∧ 0 ≤ a ∧ a < n) = 0 then (if (rs.getD i.toNat []).getD a.toNat 0 = a then ([], 5) else (exV n.toNat vs i.toNat a.toNat ((rs.getD i.toNat []).getD a.toNat 0).toNat, 0)) else ([], venC n rs vs ((0 ≤ i ∧ i < rs.length) ∧ 0 ≤ a ∧ a < n))
/-- Venues, and behind them those with home and away exchanged. -/
def dblG (m : Nat) (vs : List (List Int)) (p q : Nat) : Int := if p < m then vat vs p q else exch (vat vs (p - m) q)
def dblV (k : Nat) (vs : List (List Int)) : List (List Int) := tabN (2 * vs.length) k (dblG vs.length vs)
noncomputable def dblR (n : Int) (rs vs : List (List Int)) : ((Int × List (List Int)) × List (List Int)) × Int :=
  if venC n rs vs True = 0 then (if 2 * rs.length ≤ 40 then (((n, rs ++ rs), dblV n.toNat vs), 0) else (((0, []), []), 3)) else (((0, []), []), venC n rs vs True)
def Opp (vs : List (List Int)) (a b : Nat) : Prop := ∀ i : Nat, i < vs.length → vat vs i a = exch (vat vs i b)
open Classical in
noncomputable def oppR (n : Int) (rs vs : List (List Int)) (a b : Int) : Bool × Int :=
  if venC n rs vs ((0 ≤ a ∧ a < n) ∧ (0 ≤ b ∧ b < n) ∧ a ≠ b) = 0 then (decide (Opp vs a.toNat b.toNat), 0) else (false, venC n rs vs ((0 ≤ a ∧ a < n) ∧ (0 ≤ b ∧ b < n) ∧ a ≠ b))
/-! circles -/
def circVRow (n : Nat) (r : Nat) (base : Int) : List Int :=
  (List.range (n / 2 - 1)).foldl (fun l k => (l.set ((r + (k + 1)) % (n - 1)) (((k : Int) + 1) % 2)).set ((r + (n - 1) - (k + 1)) % (n - 1)) (1 - ((k : Int) + 1) % 2)) (((List.replicate n base).set (n - 1) (1 - (r : Int) % 2)).set r ((r : Int) % 2))
end Go.Proofs.Ytlfflmoegfibgaa
