import Derived.Test.YtjbhmdhebmkgkaaUB
import Derived.Test.YtjbhmdhebmkgkaaUA
import Derived.Test.YtjbhmdhebmkgkaaUC
import Derived.Test.YtjbhmdhebmkgkaaSF
import Derived.Test.YtjbhmdhebmkgkaaVLArr
/- Parts of the proof, one after another. No conditions of their own. -/
/- A part of the proof: W12. No conditions of its own. -/
namespace Go.Proofs.Ytjbhmdhebmkgkaa
open Go.VL
attribute [local irreducible] VWr VOps VD Calls

theorem rdFn_old {w0 w : World} {own : Own} {r : Value} {ds : List Nat} (hR : RdFn w0 r ds []) (hg : Go.VL.Good ⟨w0, []⟩ own w) (h0 : 0 < ds.length) : RdFn w r ds own := by
  obtain ⟨b, o, cap, rfl, _, hc⟩ := hR
  refine ⟨b, o, cap, rfl, ?_, fun j d hj => (old_stays hg (hc j d hj) (by simp)).1⟩
  obtain ⟨d, hd⟩ : ∃ d, ds[0]? = some d := ⟨_, List.getElem?_eq_getElem h0⟩
  exact (old_stays hg (hc 0 d hd) (by simp)).2
/-- The table when q pairs have been counted. -/
def hitG (P : List (List Int)) (q : Nat) (x y : Nat) : Int := (hits (P.take q) x y : Int)
end Go.Proofs.Ytjbhmdhebmkgkaa

/- A part of the proof: W13. No conditions of its own. -/
namespace Go.Proofs.Ytjbhmdhebmkgkaa
open Go.VL
attribute [local irreducible] VWr VOps VD Calls

open Classical in
noncomputable def partR (n : Int) (es : List (List Int)) : List (List Int) × Int := if IsEv n es then (relT n.toNat [1] es, 0) else ([], 1)
open Classical in
noncomputable def oppR (n : Int) (es : List (List Int)) (k : Int) : List (List Int) × Int :=
  if IsEv n es then (if k = 0 then (relT n.toNat [2, 3] es, 0) else if k = 1 then (relT n.toNat [2] es, 0) else if k = 2 then (relT n.toNat [3] es, 0) else ([], 2)) else ([], 1)
/-- Relations that have just been listed. -/
theorem rdFn_lit {Γ : Ctx} {own : Own} {w : World} {b e n c : Nat} {ds : List Nat} (hm : (b, (⟨ds.map relV, e, n, none⟩ : Blk)) ∈ own) (hg : Go.VL.Good Γ own w) (hn : c = ds.length) : RdFn w (.slice (some ⟨b, 0, none⟩) c c) ds [] := by
  subst hn
  refine ⟨b, 0, _, rfl, by simp [ids], fun j d hj => ?_⟩
  rw [Nat.zero_add]
  exact cell_of_blk hg.ok hm (by simp [hj])

set_option maxRecDepth 100000 in
theorem two_rel : ∀ v ∈ [relV 2, relV 3], v.cells.size = 1 := by
  intro v hv
  rcases List.mem_cons.1 hv with rfl | hv
  · rfl
  · obtain rfl : v = relV 3 := by simpa using hv
    rfl
end Go.Proofs.Ytjbhmdhebmkgkaa

