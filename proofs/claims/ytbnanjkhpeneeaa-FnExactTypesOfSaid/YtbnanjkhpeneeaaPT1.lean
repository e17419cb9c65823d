import Derived.Test.YtbnanjkhpeneeaaPT0
import Derived.Test.YtbnanjkhpeneeaaVLSort
import Derived.Sort.LotA
import Derived.WalkKit
import Derived.Test.YtbnanjkhpeneeaaVLArr
/- A part of the proof: PT1. No conditions of its own. -/
namespace Go.Proofs.Ytbnanjkhpeneeaa
open Go.RowKit Go.Sort

/-- The comparison: the greater number comes first. -/
def cfD (x y : Int) : Int := if y < x then -1 else if x < y then 1 else 0
theorem ltD (x y : Int) : ltOf cfD x y = decide (y < x) := by
  unfold ltOf cfD
  by_cases h1 : y < x
  · simp [h1]
  · by_cases h2 : x < y <;> simp [h1, h2]
theorem swoD : SWO (ltOf cfD) where
  irrefl x := by rw [ltD]; simp
  trans x y z h1 h2 := by rw [ltD] at *; simp at *; omega
  ntrans x y z h1 h2 := by rw [ltD] at *; simp at *; omega
theorem totD (x y : Int) (h1 : ltOf cfD x y = false) (h2 : ltOf cfD y x = false) : x = y := by rw [ltD] at *; simp at *; omega

set_option maxHeartbeats 1000000 in
theorem closureD (x y : Int) (W : World) : Calls Try.prog 94 #[.int .i64 x, .int .i64 y] W fun e w' => e = .returned (.int .i64 (cfD x y)) ∧ ∃ q, w' = W.drewN q := by
  unfold cfD
  go_enter Try.func94, Try.ntmps94
  go_wp2
  all_goals go_ret
  all_goals exact ⟨rfl, 0, rfl⟩
end Go.Proofs.Ytbnanjkhpeneeaa
