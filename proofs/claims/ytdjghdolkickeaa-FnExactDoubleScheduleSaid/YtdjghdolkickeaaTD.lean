import Derived.Test.YtdjghdolkickeaaTB
import Derived.Test.YtdjghdolkickeaaVLArr
/- Parts of the proof, one after another. No conditions of their own. -/
/- A part of the proof: S14. No conditions of its own. -/
namespace Go.Proofs.Ytdjghdolkickeaa
open Go.VL
attribute [local irreducible] VWr VOps VD Calls

open Classical in
theorem venC_congr {n : Int} {rs vs : List (List Int)} {p q : Prop} (h : p ↔ q) : venC n rs vs p = venC n rs vs q := by rw [propext h]
open Classical in
theorem c_codeOfV (n : Int) (v u : Value) (rs vs : List (List Int)) (t : Bool) (told : Prop) (ht : t = true ↔ told) (w : World) (hv : RdS w v rs) (hu : RdII w u vs) (hr : ∀ r ∈ rs, r.length = 14) (hl : rs.length ≤ 1048576) (hl2 : vs.length ≤ 1048576) (hll : ∀ l ∈ vs, l.length ≤ 1048576) :
    Calls Try.prog 105 [.agg #[.int .i64 n, v], u, .bool t].toArray w (Res w (Is (.int .i64 (venC n rs vs told)))) := by
  have := c_codeOfVenues n v u rs vs (t = true) w hv hu hr hl hl2 hll
  rw [show decide (t = true) = t by cases t <;> rfl, venC_congr ht] at this
  exact this
end Go.Proofs.Ytdjghdolkickeaa

