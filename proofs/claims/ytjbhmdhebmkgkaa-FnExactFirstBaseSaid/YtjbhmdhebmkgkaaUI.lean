import Derived.Test.YtjbhmdhebmkgkaaUH
import Derived.Test.YtjbhmdhebmkgkaaSI
import Derived.Test.YtjbhmdhebmkgkaaVLArr
/- Parts of the proof, one after another. No conditions of their own. -/
/- A part of the proof: W19. No conditions of its own. -/
namespace Go.Proofs.Ytjbhmdhebmkgkaa
open Go.VL
attribute [local irreducible] VWr VOps VD Calls

/-- A round in which k players of a list have met their partners. -/
def setTo (r base : List Int) : Nat → List Int
  | 0 => base
  | k + 1 => (setTo r base k).set (r.getD k 0).toNat (r.getD (k ^^^ 1) 0)
/-- The round of a list of tables. -/
def parRow (n : Int) (r : List Int) : List Int := setTo r (freeTo n) r.length
open Classical in
noncomputable def parS (n : Int) (es : List (List Int)) : (Int × List (List Int)) × Int :=
  if IsEv n es then (if 14 < n then ((0, []), 3) else ((n, es.map (parRow n)), 0)) else ((0, []), 1)
theorem rdO_old {w0 w : World} {own : Own} {v : Value} {t : List Int} (hv : RdI w0 v t) (hg : Go.VL.Good ⟨w0, []⟩ own w) : RdO w v t own := by
  rcases hv with ⟨a, cap, _, h⟩ | ⟨b, o, cap, rfl, hc⟩
  · exact .inl h
  · by_cases h0 : t.length = 0
    · exact .inl (List.eq_nil_of_length_eq_zero h0)
    · exact .inr ⟨b, o, cap, rfl, (old_stays hg (hc 0 _ (ints_get (by omega))) (by simp)).2, fun j hj => (old_stays hg (hc j _ (ints_get hj)) (by simp)).1⟩
end Go.Proofs.Ytjbhmdhebmkgkaa

/- A part of the proof: W19S. No conditions of its own. -/
namespace Go.Proofs.Ytjbhmdhebmkgkaa
open Go.VL
attribute [local irreducible] VWr VOps VD Calls

end Go.Proofs.Ytjbhmdhebmkgkaa

