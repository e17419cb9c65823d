import Derived.Test.YtlnohlomanapeaaSY
import Derived.Test.YtlnohlomanapeaaVLA
import Derived.Test.YtlnohlomanapeaaSA
import Derived.Test.YtlnohlomanapeaaVLPlay
/- Parts of the proof, one after another. No conditions of their own. -/
/- A part of the proof: W1. No conditions of its own. -/
namespace Go.Proofs.Ytlnohlomanapeaa
open Go.VL

/-- Different numbers below n. -/
def DiffL (n : Int) (l : List Int) : Prop := (∀ x ∈ l, 0 ≤ x ∧ x < n) ∧ l.Nodup
/-- A round of players. -/
def EvRow (n : Int) (r : List Int) : Prop := r.length % 4 = 0 ∧ DiffL n r
/-- An evening. -/
def IsEv (n : Int) (es : List (List Int)) : Prop := 4 ≤ n ∧ n ≤ 16 ∧ es.length ≤ 20 ∧ ∀ r ∈ es, EvRow n r
theorem DiffL.len {n : Int} {l : List Int} (h : DiffL n l) : l.length ≤ n.toNat := pigeon n.toNat l h.2 fun x hx => by have := h.1 x hx; omega
theorem IsEv.row {n : Int} {es : List (List Int)} (h : IsEv n es) {i : Nat} {r : List Int} (hi : es[i]? = some r) : EvRow n r := h.2.2.2 r (List.mem_of_getElem? hi)
theorem IsEv.len {n : Int} {es : List (List Int)} (h : IsEv n es) {r : List Int} (hr : r ∈ es) : r.length ≤ 16 := by
  have h1 := (h.2.2.2 r hr).2.len
  have h2 := h.2.1
  omega
theorem DiffL.get {n : Int} {l : List Int} (h : DiffL n l) {i : Nat} (hi : i < l.length) : 0 ≤ l.getD i 0 ∧ l.getD i 0 < n := h.1 _ (mem_getD hi)
theorem DiffL.ne {n : Int} {l : List Int} (h : DiffL n l) {i j : Nat} (hi : i < l.length) (hj : j < l.length) (hij : i ≠ j) : l.getD i 0 ≠ l.getD j 0 := fun e => hij (getD_inj h.2 hi hj e)

/-- The pairs of a table that stand in the relation d: partners for 1, opponents of both kinds for 2 and 3. -/
def pairs4 (d : Nat) (a b c e : Int) : List (List Int) := if d = 1 then [[a, b], [c, e]] else if d = 2 then [[a, c], [b, e]] else [[a, e], [b, c]]
def tabP (ds : List Nat) (a b c e : Int) : List (List Int) := (ds.map fun d => pairs4 d a b c e).flatten
/-- The pairs of some tables. -/
def relP (ds : List Nat) : List Int → List (List Int)
  | a :: b :: c :: e :: t => tabP ds a b c e ++ relP ds t
  | _ => []
/-- What the place k of a round adds to the place x, y of a table. -/
def ordW (ds : List Nat) (r : List Int) (k x y : Nat) : Nat := (ds.filter fun d => decide (r.getD k 0 = (x : Int) ∧ r.getD (k / 4 * 4 + (k % 4 ^^^ d)) 0 = (y : Int))).length
/-- .. and all places below k. -/
def ordC (ds : List Nat) (r : List Int) (x y : Nat) : Nat → Nat
  | 0 => 0
  | k + 1 => ordC ds r x y k + ordW ds r k x y
/-- How often x and y stand in one of the relations. -/
def relN (ds : List Nat) (es : List (List Int)) (x y : Nat) : Nat := hits (relP ds es.flatten) x y
/-- The table of a relation. -/
def relT (n : Nat) (ds : List Nat) (es : List (List Int)) : List (List Int) := tabOf n fun x y => (relN ds es x y : Int)
end Go.Proofs.Ytlnohlomanapeaa

/- A part of the proof: W3. No conditions of its own. -/
namespace Go.Proofs.Ytlnohlomanapeaa
open Go.VL
attribute [local irreducible] VWr VOps VD Calls

end Go.Proofs.Ytlnohlomanapeaa

