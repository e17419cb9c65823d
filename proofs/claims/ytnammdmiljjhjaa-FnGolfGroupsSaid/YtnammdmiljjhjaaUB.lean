import Derived.Test.YtnammdmiljjhjaaUA
import Derived.Test.YtnammdmiljjhjaaVLA
/- Parts of the proof, one after another. No conditions of their own. -/
/- A part of the proof: W16. No conditions of its own. -/
namespace Go.Proofs.Ytnammdmiljjhjaa
open Go.VL

/-! evenings made from a base round, and gaps -/
def shN (m i a : Nat) : Nat := if Nat.blt a m then (a + i) % m else a
def gapN (m a b : Nat) : Nat := if Nat.beq a m || Nat.beq b m then 0 else min ((a + m - b) % m) (m - (a + m - b) % m)
def metIn (m a b x y i : Nat) : Bool := (Nat.beq (shN m i a) x && Nat.beq (shN m i b) y) || (Nat.beq (shN m i a) y && Nat.beq (shN m i b) x)
def cntI (m a b x y : Nat) : Nat → Nat
  | 0 => 0
  | i + 1 => (if metIn m a b x y i then 1 else 0) + cntI m a b x y i
def allB (n : Nat) (p : Nat → Bool) : Bool := match n with | 0 => true | k + 1 => p k && allB k p
def lowG (n : Nat) : Nat := n % 4
def manyG (n : Nat) : Nat := n / 4 * 2
def gapCheck (n m : Nat) : Bool := allB n fun a => allB n fun b => Nat.beq a b || (Nat.ble (lowG n) (gapN m a b) && Nat.blt (gapN m a b) (lowG n + manyG n) && allB n fun x => allB n fun y => Nat.beq x y || Nat.beq (cntI m a b x y m) (if Nat.beq (gapN m a b) (gapN m x y) then 1 else 0))
def mOf (n : Nat) : Nat := n - 1 + n % 4
/-- The numbers of players for which base rounds are looked for. -/
def IsBaseN (n : Nat) : Prop := n = 4 ∨ n = 5 ∨ n = 8 ∨ n = 9
def sumP (f : List Int → Nat) : List (List Int) → Nat
  | [] => 0
  | p :: P => f p + sumP f P
/-- A round made from a base round. -/
def shI (m i : Nat) (x : Int) : Int := if x < (m : Int) then (x + (i : Int)) % (m : Int) else x
def madeT (m : Nat) (l : List Int) (k : Nat) : List (List Int) := (List.range k).map fun i => l.map (shI m i)
/-- How often the gap is g. -/
def gapC (m : Nat) (ds : List Nat) (l : List Int) (g : Nat) : Nat := ((relP ds l).filter fun p => Nat.beq (gapN m (p.getD 0 0).toNat (p.getD 1 0).toNat) g).length
def sumN (f : Nat → Nat) : Nat → Nat
  | 0 => 0
  | k + 1 => sumN f k + f k
/-- No gap of partners twice, none of opponents three times. -/
def CanB (n : Nat) (l : List Int) : Prop := (∀ g, gapC (mOf n) [1] l g ≤ 1) ∧ ∀ g, gapC (mOf n) [2, 3] l g ≤ 2
/-- Nobody partner twice, nobody opponent three times, in the evening made from some tables. -/
def FitsB (n : Nat) (l : List Int) : Prop := ∀ x y, x < n → y < n → relN [1] (madeT (mOf n) l (mOf n)) x y ≤ 1 ∧ relN [2, 3] (madeT (mOf n) l (mOf n)) x y ≤ 2
/-- Each two related just so often. -/
def EachIs (n : Nat) (ds : List Nat) (es : List (List Int)) (c : Nat) : Prop := ∀ x y, x < n → y < n → x ≠ y → relN ds es x y = c
end Go.Proofs.Ytnammdmiljjhjaa

