import Derived.Test.YtabccmngdhgdfaaP2
import Derived.Test.YtabccmngdhgdfaaVLAlloc
import Derived.Test.YtabccmngdhgdfaaVLArr
/- A part of the proof: LW. No conditions of its own. -/
namespace Go.Proofs.Ytabccmngdhgdfaa
open Go.VL
attribute [local irreducible] VWr VOps VD Calls

theorem okS {own0 own1 : Own} {Γ : Ctx} {w : World} (hg : Go.VL.Good Γ (own0 ++ own1) w) : OwnOk own0 w :=
  hg.ok.sub (by have := hg.ok.nodup; rw [ids, List.map_append] at this; exact (List.nodup_append.1 this).1) sub_hereL
abbrev SchR (n : Int) (rs : List (List Int)) (u : Value) (new : Own) : Prop := SchG 25 n rs u new
theorem c_toSch (n : Int) (v : Value) (rs : List (List Int)) (w : World) (hv : RdS w v rs) (hr : ∀ r ∈ rs, r.length = 14) (hl : rs.length ≤ 1048576) :
    Calls Try.prog 65 [.agg #[.int .i64 n, v]].toArray w (Res w (SchR n rs)) := by
  refine (c_toSchedule n v rs w hv hr hl).mono ?_
  rintro e w' ⟨u, new, h1, h2, h3, h4, b, rfl, rfl⟩
  exact ⟨_, _, h1, h2, h3, h4, _, _, rfl, NewF.mk (flat_length hr) (Nat.le_refl _) (by simp only [maxLen]; omega)⟩
theorem c_eqSch (n : Int) (v u : Value) (rs : List (List Int)) (w : World) (hv : RdS w v rs) (hu : RdS w u rs) (hr : ∀ r ∈ rs, r.length = 14) (hl : rs.length ≤ 1048576) :
    Calls Try.prog 67 [.agg #[.int .i64 n, v], .agg #[.int .i64 n, u]].toArray w (Res w (Is (.bool true))) := by
  have := c_eqSchedule n n v u rs rs w hv hu hr hr hl
  rwa [decide_eq_true ⟨rfl, rfl⟩] at this
theorem c_eqI (v u : Value) (l : List Int) (w : World) (hv : RdI w v l) (hu : RdI w u l) (hl : l.length ≤ 1048576) : Calls Try.prog 75 [v, u].toArray w (Res w (Is (.bool true))) := by
  have := c_eqInt64S v u l l w hv hu hl
  rwa [decide_eq_true rfl] at this
theorem c_eqR (r : List Int) (hr : r.length = 14) (w : World) : Calls Try.prog 56 [.agg (ints r).toArray, .agg (ints r).toArray].toArray w (Res w (Is (.bool true))) := by
  have := c_eqRound r r hr hr w
  rwa [decide_eq_true rfl] at this
theorem c_szSch (n : Int) (v : Value) (rs : List (List Int)) (w : World) (hv : RdS w v rs) (hl : rs.length ≤ maxLen) (left left' : Int) (h0 : 0 ≤ left) (h1 : left ≤ 1048576) (he : left' = if left - (rs.length : Int) < 0 then -1 else left - rs.length) :
    Calls Try.prog 63 [.agg #[.int .i64 n, v], .int .i64 left].toArray w (Res w (Is (.int .i64 left'))) := by
  obtain ⟨a, cap, hv'⟩ := hv.len
  rw [he]
  exact c_szSchedule n v a rs.length cap left hv' hl h0 h1 w
end Go.Proofs.Ytabccmngdhgdfaa
